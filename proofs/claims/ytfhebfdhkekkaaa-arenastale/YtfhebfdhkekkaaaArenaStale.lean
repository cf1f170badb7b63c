/- A handle that was freed is never good again, whatever is put later; the others have what they had: for whatever number of slots and whatever script. -/
import Derived.Test.YtfhebfdhkekkaaaArBegun
import Derived.Test.YtfhebfdhkekkaaaArStep
import Derived.Test.YtfhebfdhkekkaaaArOpen
import Derived.Test.YtfhebfdhkekkaaaRgM
namespace Go.Proofs.Ytfhebfdhkekkaaa
open Go.ChangeShapes Go.WideShapes Go.ChangeAt Go.RowKit
open Go.ChangeMaps (open_string shut_string)
set_option linter.unusedVariables false
set_option maxRecDepth 100000

/-- An operation's box. -/
theorem abox (w : World) (dd use : Int) (tx : ByteArray) (gs gg : Int) : ∃ w1, w.alloc (.cells #[.int .i64 dd, .int .i64 use, .string tx, .int .i64 gs, .int .i64 gg] 38) = w1 ∧ Tn [] w w1 ∧ Bk w1 w.heap.size 38 #[.int .i64 dd, .int .i64 use, .string tx, .int .i64 gs, .int .i64 gg] ∧ w1.heap.size = w.heap.size + 1 :=
  ⟨_, rfl, (Tn.refl _ _).alloc _, Bk.new _ _ _, by simp⟩

theorem acells {w : World} {b : Nat} {dd use : Int} {tx : ByteArray} {gs gg : Int} (h : Bk w b 38 #[.int .i64 dd, .int .i64 use, .string tx, .int .i64 gs, .int .i64 gg]) : w.cell? ⟨b, 0, none⟩ = some (.int .i64 dd) ∧ w.cell? ⟨b, 1, none⟩ = some (.int .i64 use) ∧ w.cell? ⟨b, 2, none⟩ = some (.string tx) := ⟨h.cell 0, h.cell 1, h.cell 2⟩

/-- A step of the arena, beside a box. -/
theorem Sm.aftO {w wr w1 : World} {B O : Nat} {a a' : Ar} {gv lv sv : Value} {L : List (Int × Int)} {H : List ByteArray} {G : List (Int × Int)} (h : Sm w wr B a gv lv sv L H G) (hf : AftS w.heap.size wr w1 B a' (O :: bl3 gv lv sv)) {t : TypeId} {cs : Array Value} (hk : Bk wr O t cs) : Sm w w1 B a' gv lv sv L H G ∧ Bk w1 O t cs :=
  ⟨h.aft ⟨hf.1.sub (fun x hx => List.mem_cons_of_mem _ hx), hf.2.1, fun g hg => hf.2.2 g (List.mem_cons_of_mem _ hg)⟩, (hf.2.2 O (by simp)).trans hk⟩

theorem sone (x : ByteArray) : ∀ u ∈ [Value.string x], u.oneCell' = true := by
  intro u hu
  simp only [List.mem_cons, List.not_mem_nil, or_false] at hu
  subst hu
  rfl

theorem kmod (use : Int) {nL : Nat} (h0 : 0 < nL) (h1 : nL ≤ 2932031007402) : ∃ k : Nat, k < nL ∧ (wrap64 (use.tmod nL + nL)).tmod nL = (k : Int) := by
  have a1 : -(nL : Int) < use.tmod nL := by
    have := Int.lt_tmod_of_pos use (show (0 : Int) < nL by omega)
    omega
  have a2 : use.tmod nL < nL := Int.tmod_lt_of_pos use (show (0 : Int) < nL by omega)
  have e : wrap64 (use.tmod nL + nL) = use.tmod nL + nL := by unfold wrap64; omega
  rw [e]
  have b1 : 0 ≤ (use.tmod nL + nL).tmod nL := Int.tmod_nonneg _ (by omega)
  have b2 : (use.tmod nL + nL).tmod nL < nL := Int.tmod_lt_of_pos _ (show (0 : Int) < nL by omega)
  exact ⟨((use.tmod nL + nL).tmod nL).toNat, by omega, by omega⟩

set_option maxHeartbeats 16000000 in
theorem walk_arenaStale (sl : Int) (p : Option Addr) (len cap : Nat) (os : List Aop) (w : World) (hsl : (Lit.int .i64 sl).wf = true) (hin : InA w p len cap os) :
    Calls Try.prog 4 #[.int .i64 sl, .slice p len cap] w fun e w' => e = .returned (.bool true) ∧ Below w.heap.size w w' := by
  clear hsl
  by_cases hbad : sl < 1 ∨ 65536 < sl
  · have hd : (decide (sl < 1) || decide (65536 < sl)) = true := by simpa using hbad
    go_enter Try.func4, Try.ntmps4
    go_wp2_with fail
    refine (newBadS w sl hbad).mono ?_
    rintro e w1 ⟨rfl, rfl⟩
    go_wp2_with fail
    refine (begun_any _).mono ?_
    rintro e w2 ⟨rfl, hb2⟩
    have HB : Hid _ := hb2
    clear hb2
    by_cases h1 : sl < 1
    · go_wp2
      go_ret
      exact ⟨by simp, HB.out⟩
    · have h2 : 65536 < sl := by omega
      go_wp2
      go_ret
      exact ⟨by simp, HB.out⟩
  · obtain ⟨n, rfl⟩ : ∃ n : Nat, sl = (n : Int) := ⟨sl.toNat, by omega⟩
    have hn1 : 1 ≤ n := by omega
    have hn2 : n ≤ 65536 := by omega
    clear hbad
    have hle := hin.le
    have hroom := hin.room
    have HI : Hid (InA w p len cap os) := hin
    clear hin
    go_enter Try.func4, Try.ntmps4
    go_wp2_with fail
    refine (newSS w n hn1 hn2).mono ?_
    rintro e w1 ⟨rfl, hA1, hb1, -⟩
    have HA1 : Hid (AsS w.heap.size w1 w.heap.size (Ar.fresh n) []) := hA1
    have HB1 : Hid (Below w.heap.size w w1) := hb1
    clear hA1 hb1
    go_wp2_with fail
    refine (begun_any w1).mono ?_
    rintro e w2 ⟨rfl, hb2⟩
    have H0 : Hid (Sm w w2 w.heap.size (Ar.fresh n) (.slice none 0 0) (.slice none 0 0) (.slice none 0 0) [] [] []) :=
      { ar := HA1.out.below hb2, gr := Hr.nil _, lr := Hr.nil _, sr := Sr.nil _, gl := (fun k hk => by cases hk), gs := (fun k hk => by cases hk), ls := (fun k hk => by cases hk), lo := (fun k hk => by simp [bl3, Value.ownBlock] at hk), bel := HB1.out.trans (hb2.mono HB1.out.size) }
    clear HA1 HB1 hb2
    generalize w.heap.size = B at *
    go_wp2_with fail
    go_loopw [7, 8, 9, 47] (fun gv lv sv iv wr => ∃ (j : Nat) (a : Ar) (L : List (Int × Int)) (H : List ByteArray) (G : List (Int × Int)), j ≤ len ∧ iv = .int .i64 j ∧ Hid (Pu n j a L H G) ∧ Hid (Sm w wr B a gv lv sv L H G)) (fun _ _ _ iv _ => len - (intOf iv).toNat)
    case atStart => exact ⟨0, _, [], [], [], Nat.zero_le _, rfl, Pu.start n, H0⟩
    case round =>
      obtain ⟨j, a, L, H, G, hj, rfl, HP, HS⟩ := hrel
      clear H0
      by_cases hjl : j < len
      · have hji : (j : Int) < (len : Int) := by omega
        obtain ⟨b, o, g, rfl, -, hok, -, q0, q1, q2, q3, q4⟩ := (HI.out.up HS.out.bel).at hjl
        have hu := hok.1
        obtain ⟨nL, hnL⟩ : ∃ nL, L.length = nL := ⟨_, rfl⟩
        have hnj : nL ≤ len := by have := HP.out.llen; omega
        obtain ⟨⟨lp, lc, rfl⟩, -⟩ := HS.out.lr.formN hnL
        obtain ⟨⟨sp, sc, rfl⟩, -⟩ := HS.out.sr.formN (HP.out.lens.trans hnL)
        obtain ⟨dd, use, tx, gs, gg⟩ := g
        simp only [] at q0 q1 q2 q3 q4 hu
        obtain ⟨w3, hw3, ht3, hk3, hz3⟩ := abox wr dd use tx gs gg
        have HS3 : Hid (Sm w w3 B a u7 (.slice lp nL lc) (.slice sp nL sc) L H G) := HS.out.quiet ht3
        have HA3 : Hid (AsS w.heap.size w3 B a (wr.heap.size :: bl3 u7 (.slice lp nL lc) (.slice sp nL sc))) := HS.out.ar.add ht3 (Nat.le_refl _) (by omega)
        have HK3 : Hid (Bk w3 wr.heap.size 38 #[.int .i64 dd, .int .i64 use, .string tx, .int .i64 gs, .int .i64 gg]) := hk3
        have HLN : Hid (L.length = nL) := hnL
        obtain ⟨k0, k1, k2⟩ := acells hk3
        have HBL : Hid (∀ k ∈ bl3 u7 (.slice lp nL lc) (.slice sp nL sc), k < wr.heap.size) := HS.out.lt
        clear ht3 hk3 hz3 HS hnL
        have HFL : Hid (live a.us ≤ a.size) := HS3.out.lvle
        by_cases hput : dd = 0
        · have hdd : (dd == 0) = true := by simp [hput]
          clear hput
          by_cases h0 : 0 < nL
          · have h0i : (0 : Int) < (nL : Int) := by omega
            by_cases hfull : live a.us < n
            · have hgen := HP.out.gens.gen (by omega)
              go_wp2_with fail
              refine (putSS HA3.out tx (by rw [HP.out.size]; exact hfull) hgen.1 (by omega)).mono ?_
              rintro e w4 ⟨rfl, hf4⟩
              obtain ⟨hS4, hk4⟩ := HS3.out.aftO hf4 HK3.out
              have HP4 : Hid (Pu n (j + 1) (a.put (.string tx)) (L ++ [((low a.us : Int), a.gen)]) (H ++ [tx]) G) := HP.out.put tx
              obtain ⟨w5, hw5, ht5, hk5, hz5⟩ := hbox w4 (low a.us : Int) a.gen
              have HS5 : Hid (Sm w w5 B (a.put (.string tx)) u7 (.slice lp nL lc) (.slice sp nL sc) L H G) := hS4.quiet ht5
              have HK5 : Hid (Bk w5 w4.heap.size 36 #[.int .i64 (low a.us : Int), .int .i64 a.gen]) := hk5
              have HO5 : Hid (Bk w5 wr.heap.size 38 #[.int .i64 dd, .int .i64 use, .string tx, .int .i64 gs, .int .i64 gg]) := hk4.tn ht5 (by simp)
              obtain ⟨x0, x1⟩ := hcells hk5
              obtain ⟨-, -, x2⟩ := acells HO5.out
              have HW4 : Hid (wr.heap.size ≤ w4.heap.size) := by have := hk4.lt; unfold Hid; omega
              clear hf4 hS4 hk4 ht5 hk5 hz5 HA3 HK3 HS3 hw3 k0 k1 k2 q0 q1 q2 q3 q4 HP
              generalize (low a.us : Int) = lw at *
              generalize a.gen = gn at *
              have HLR : Hid (∀ W, Tn [] w5 W → W.ownsRow 0 36 2 (.slice lp nL lc) nL (hCells L)) := fun W hW => (HS5.out.lr.tn hW (by simp)).formN HLN.out |>.2
              have HHN : Hid (H.length = nL) := by have := HP4.out.lens; simp at this; exact this.trans HLN.out
              have HSR : Hid (∀ W, Tn (Value.slice lp nL lc).ownBlock.toList w5 W → W.ownsRow 0 9 1 (.slice sp nL sc) nL (H.map Value.string)) := fun W hW => (HS5.out.sr.tn hW (fun k hk hm => HS5.out.ls k (opt_toList.1 hm) hk)).formN HHN.out |>.2
              have HNE : Hid (∀ b, w5.heap.size ≤ b → (Value.slice lp nL lc).ownBlock ≠ some b) := fun b hb e => by have := HS5.out.lr.lt b e; omega
              have HSS : Hid (∀ W, Tn ((Value.slice lp nL lc).ownBlock.toList ++ (Value.slice sp nL sc).ownBlock.toList) w5 W → W.cell? ⟨w4.heap.size, 0, none⟩ = some (.int .i64 lw) ∧ W.cell? ⟨w4.heap.size, 1, none⟩ = some (.int .i64 gn) ∧ W.cell? ⟨wr.heap.size, 2, none⟩ = some (.string tx)) := by
                intro W hW
                have e : ∀ b, wr.heap.size ≤ b → b ∉ (Value.slice lp nL lc).ownBlock.toList ++ (Value.slice sp nL sc).ownBlock.toList := by
                  intro b hb hm
                  simp only [List.mem_append, opt_toList] at hm
                  have := HBL.out b (mem_bl3.2 (.inr hm))
                  omega
                have h1 := HK5.out.tn hW (e _ HW4.out)
                have h2 := HO5.out.tn hW (e _ (Nat.le_refl _))
                exact ⟨h1.cell 0, h1.cell 1, h2.cell 2⟩
              have hnl9 : nL ≤ 2932031007402 := by omega
              go_wp2_with fail
              go_region_held_law (fun w' => w'.cell? ⟨w4.heap.size, 0, none⟩ = some (.int .i64 lw) ∧ w'.cell? ⟨w4.heap.size, 1, none⟩ = some (.int .i64 gn) ∧ w'.cell? ⟨wr.heap.size, 2, none⟩ = some (.string tx)) (go_keep) (first
                | (refine stepX rfl _ _ 32 rfl 36 (.agg #[.int .i64 0, .int .i64 0]) 2 16 Try.underlying32 hinfo rfl (by decide) (.slice lp nL lc) nL (hCells L) (by go_simp) (HLR.out _ (by repeat (first | exact Tn.refl _ _ | refine Tn.alloc ?_ _ | refine Tn.drew ?_))) ⟨_, 0, none⟩ 1 1 [.int .i64 lw, .int .i64 gn] (by rfl) rfl (news_bk (by first | exact Bk.new _ _ _ | exact (Bk.new _ _ _).alloc _ | exact bk_new2 _ _ _ _)) (hone _ _) (by unfold maxLen; omega) (by omega) ?_; intro v1 w6 r1 g1 b1; have hW1 : Tn [] w5 _ := tnB g1 (by repeat (first | exact Tn.refl _ _ | refine Tn.alloc ?_ _ | refine Tn.drew ?_)); have t6 := tnG (S := (Value.slice lp nL lc).ownBlock.toList) g1 (hW1.mono (by simp)) (fun k hk => opt_toList.2 hk); have s6 := HSS.out w6 (t6.mono (fun x hx => List.mem_append.2 (.inl hx))); have hkA := fun (b : Nat) (h : Bk _ b 9 #[.string tx]) => bk_grown h g1)
                | (refine stepX rfl _ _ 44 rfl 9 (.string ⟨#[]⟩) 1 16 Try.underlying44 strinfo rfl (by decide) (.slice sp nL sc) nL (H.map Value.string) (by go_simp) (HSR.out _ (by repeat (first | exact t6 | refine Tn.alloc ?_ _ | refine Tn.drew ?_))) ⟨_, 0, none⟩ 1 1 [.string tx] (by rfl) rfl (news_bk (by first | exact hkA _ (bk_new2 _ _ _ _) (HNE.out _ (by first | exact Nat.le_refl _ | omega | simp)) | exact hkA _ ((Bk.new _ _ _).alloc _) (HNE.out _ (by first | exact Nat.le_refl _ | omega | simp)) | exact Bk.new _ _ _)) (sone _) (by unfold maxLen; omega) (by omega) ?_; intro v2 w7 r2 g2 b2; have hW2 : Tn [] w6 _ := tnB g2 (by repeat (first | exact Tn.refl _ _ | refine Tn.alloc ?_ _ | refine Tn.drew ?_)); have t7 := tnG (S := (Value.slice sp nL sc).ownBlock.toList) g2 (hW2.mono (by simp)) (fun k hk => opt_toList.2 hk); have s7 := HSS.out w7 ((t6.mono (fun x hx => List.mem_append.2 (.inl hx))).trans t7 (fun x hx => .inl (List.mem_append.2 (.inr hx))))))
              all_goals
                have HN : Hid (Sm w w7 B (a.put (.string tx)) u7 v1 v2 (L ++ [(lw, gn)]) (H ++ [tx]) G) := HS5.out.put2 HLN.out HHN.out hW1 r1 g1 b1 hW2 r2 g2 b2
                clear HLR HSR HNE HSS HS5 HK5 HO5 hkA
                go_wp2
                go_roundw
                case rel => exact ⟨j + 1, _, _, _, _, by omega, by go_num, HP4, HN⟩
                case measure => simp [intOf]; omega
            · have hfl : live a.us = n := by have := HP.out.size; have := HFL.out; omega
              go_wp2_with fail
              refine (fullSS HA3.out tx (by rw [HP.out.size]; exact hfl)).mono ?_
              rintro e w4 ⟨rfl, hf4⟩
              obtain ⟨hS4, hk4⟩ := HS3.out.aftO hf4 HK3.out
              have HS5 : Hid (Sm w (w4.alloc (.cells #[.int .i64 0, .int .i64 0] 36)) B a u7 (.slice lp nL lc) (.slice sp nL sc) L H G) := hS4.quiet ((Tn.refl _ _).alloc _)
              have HP4 : Hid (Pu n (j + 1) a L H G) := HP.out.more
              have hln : nL = n := by have := HP.out.liv; have := HLN.out; omega
              clear hf4 hS4 hk4 HA3 HK3 HS3 hw3 k0 k1 k2 q0 q1 q2 q3 q4 HP
              subst hln
              go_wp2
              go_roundw
              case rel => exact ⟨j + 1, _, _, _, _, by omega, by go_num, HP4, HS5⟩
              case measure => simp [intOf]; omega
          · obtain rfl : nL = 0 := by omega
            by_cases hfull : live a.us < n
            · have hgen := HP.out.gens.gen (by omega)
              go_wp2_with fail
              refine (putSS HA3.out tx (by rw [HP.out.size]; exact hfull) hgen.1 (by omega)).mono ?_
              rintro e w4 ⟨rfl, hf4⟩
              obtain ⟨hS4, hk4⟩ := HS3.out.aftO hf4 HK3.out
              have HP4 : Hid (Pu n (j + 1) (a.put (.string tx)) (L ++ [((low a.us : Int), a.gen)]) (H ++ [tx]) G) := HP.out.put tx
              obtain ⟨w5, hw5, ht5, hk5, hz5⟩ := hbox w4 (low a.us : Int) a.gen
              have HS5 : Hid (Sm w w5 B (a.put (.string tx)) u7 (.slice lp 0 lc) (.slice sp 0 sc) L H G) := hS4.quiet ht5
              have HK5 : Hid (Bk w5 w4.heap.size 36 #[.int .i64 (low a.us : Int), .int .i64 a.gen]) := hk5
              have HO5 : Hid (Bk w5 wr.heap.size 38 #[.int .i64 dd, .int .i64 use, .string tx, .int .i64 gs, .int .i64 gg]) := hk4.tn ht5 (by simp)
              obtain ⟨x0, x1⟩ := hcells hk5
              obtain ⟨-, -, x2⟩ := acells HO5.out
              have HW4 : Hid (wr.heap.size ≤ w4.heap.size) := by have := hk4.lt; unfold Hid; omega
              clear hf4 hS4 hk4 ht5 hk5 hz5 HA3 HK3 HS3 hw3 k0 k1 k2 q0 q1 q2 q3 q4 HP
              generalize (low a.us : Int) = lw at *
              generalize a.gen = gn at *
              have HLR : Hid (∀ W, Tn [] w5 W → W.ownsRow 0 36 2 (.slice lp 0 lc) 0 (hCells L)) := fun W hW => (HS5.out.lr.tn hW (by simp)).formN HLN.out |>.2
              have HHN : Hid (H.length = 0) := by have := HP4.out.lens; simp at this; exact this.trans HLN.out
              have HSR : Hid (∀ W, Tn (Value.slice lp 0 lc).ownBlock.toList w5 W → W.ownsRow 0 9 1 (.slice sp 0 sc) 0 (H.map Value.string)) := fun W hW => (HS5.out.sr.tn hW (fun k hk hm => HS5.out.ls k (opt_toList.1 hm) hk)).formN HHN.out |>.2
              have HNE : Hid (∀ b, w5.heap.size ≤ b → (Value.slice lp 0 lc).ownBlock ≠ some b) := fun b hb e => by have := HS5.out.lr.lt b e; omega
              have HSS : Hid (∀ W, Tn ((Value.slice lp 0 lc).ownBlock.toList ++ (Value.slice sp 0 sc).ownBlock.toList) w5 W → W.cell? ⟨w4.heap.size, 0, none⟩ = some (.int .i64 lw) ∧ W.cell? ⟨w4.heap.size, 1, none⟩ = some (.int .i64 gn) ∧ W.cell? ⟨wr.heap.size, 2, none⟩ = some (.string tx)) := by
                intro W hW
                have e : ∀ b, wr.heap.size ≤ b → b ∉ (Value.slice lp 0 lc).ownBlock.toList ++ (Value.slice sp 0 sc).ownBlock.toList := by
                  intro b hb hm
                  simp only [List.mem_append, opt_toList] at hm
                  have := HBL.out b (mem_bl3.2 (.inr hm))
                  omega
                have h1 := HK5.out.tn hW (e _ HW4.out)
                have h2 := HO5.out.tn hW (e _ (Nat.le_refl _))
                exact ⟨h1.cell 0, h1.cell 1, h2.cell 2⟩
              have hnl9 : 0 ≤ 2932031007402 := by omega
              go_wp2_with fail
              go_region_held_law (fun w' => w'.cell? ⟨w4.heap.size, 0, none⟩ = some (.int .i64 lw) ∧ w'.cell? ⟨w4.heap.size, 1, none⟩ = some (.int .i64 gn) ∧ w'.cell? ⟨wr.heap.size, 2, none⟩ = some (.string tx)) (go_keep) (first
                | (refine stepX rfl _ _ 32 rfl 36 (.agg #[.int .i64 0, .int .i64 0]) 2 16 Try.underlying32 hinfo rfl (by decide) (.slice lp 0 lc) 0 (hCells L) (by go_simp) (HLR.out _ (by repeat (first | exact Tn.refl _ _ | refine Tn.alloc ?_ _ | refine Tn.drew ?_))) ⟨_, 0, none⟩ 1 1 [.int .i64 lw, .int .i64 gn] (by rfl) rfl (news_bk (by first | exact Bk.new _ _ _ | exact (Bk.new _ _ _).alloc _ | exact bk_new2 _ _ _ _)) (hone _ _) (by unfold maxLen; omega) (by omega) ?_; intro v1 w6 r1 g1 b1; have hW1 : Tn [] w5 _ := tnB g1 (by repeat (first | exact Tn.refl _ _ | refine Tn.alloc ?_ _ | refine Tn.drew ?_)); have t6 := tnG (S := (Value.slice lp 0 lc).ownBlock.toList) g1 (hW1.mono (by simp)) (fun k hk => opt_toList.2 hk); have s6 := HSS.out w6 (t6.mono (fun x hx => List.mem_append.2 (.inl hx))); have hkA := fun (b : Nat) (h : Bk _ b 9 #[.string tx]) => bk_grown h g1)
                | (refine stepX rfl _ _ 44 rfl 9 (.string ⟨#[]⟩) 1 16 Try.underlying44 strinfo rfl (by decide) (.slice sp 0 sc) 0 (H.map Value.string) (by go_simp) (HSR.out _ (by repeat (first | exact t6 | refine Tn.alloc ?_ _ | refine Tn.drew ?_))) ⟨_, 0, none⟩ 1 1 [.string tx] (by rfl) rfl (news_bk (by first | exact hkA _ (bk_new2 _ _ _ _) (HNE.out _ (by first | exact Nat.le_refl _ | omega | simp)) | exact hkA _ ((Bk.new _ _ _).alloc _) (HNE.out _ (by first | exact Nat.le_refl _ | omega | simp)) | exact Bk.new _ _ _)) (sone _) (by unfold maxLen; omega) (by omega) ?_; intro v2 w7 r2 g2 b2; have hW2 : Tn [] w6 _ := tnB g2 (by repeat (first | exact Tn.refl _ _ | refine Tn.alloc ?_ _ | refine Tn.drew ?_)); have t7 := tnG (S := (Value.slice sp 0 sc).ownBlock.toList) g2 (hW2.mono (by simp)) (fun k hk => opt_toList.2 hk); have s7 := HSS.out w7 ((t6.mono (fun x hx => List.mem_append.2 (.inl hx))).trans t7 (fun x hx => .inl (List.mem_append.2 (.inr hx))))))
              all_goals
                have HN : Hid (Sm w w7 B (a.put (.string tx)) u7 v1 v2 (L ++ [(lw, gn)]) (H ++ [tx]) G) := HS5.out.put2 HLN.out HHN.out hW1 r1 g1 b1 hW2 r2 g2 b2
                clear HLR HSR HNE HSS HS5 HK5 HO5 hkA
                go_wp2
                go_roundw
                case rel => exact ⟨j + 1, _, _, _, _, by omega, by go_num, HP4, HN⟩
                case measure => simp [intOf]; omega
            · have h1 := HP.out.liv
              have h2 := HLN.out
              omega
        · have hdd : (dd == 0) = false := by simpa using hput
          clear hput
          by_cases h0 : 0 < nL
          · have h0i : (0 : Int) < (nL : Int) := by omega
            obtain ⟨k, hk, hke⟩ := kmod use h0 (by omega)
            have hkn : ¬ (k : Int) < 0 := by omega
            by_cases hfr : dd = 3
            · have hd3 : (dd == 3) = true := by simp [hfr]
              have hd2 : (dd == 2) = false := by simp [hfr]
              clear hfr
              obtain ⟨gl, cl, el⟩ := row_some (HS3.out.lr.formN HLN.out).2 (by omega)
              cases el
              have HHN : Hid (H.length = nL) := HP.out.lens.trans HLN.out
              obtain ⟨gh, ch, eh⟩ := row_some (HS3.out.sr.formN HHN.out).2 (by omega)
              cases eh
              obtain ⟨r0, r1⟩ := hrAt HLN.out HS3.out.lr k hk
              obtain ⟨hlc1, hlc2⟩ := row_cap (HS3.out.lr.formN HLN.out).2
              obtain ⟨hsc1, hsc2⟩ := row_cap (HS3.out.sr.formN HHN.out).2
              obtain ⟨nG, hnG⟩ : ∃ nG, G.length = nG := ⟨_, rfl⟩
              have HGN : Hid (G.length = nG) := hnG
              have hgj : nG ≤ len := by have := HP.out.glen; omega
              clear hnG
              have HGD : Hid (a.Good (hAt L k).1 (hAt L k).2) := (HP.out.good k (by rw [HLN.out]; exact hk)).1
              have HP4 : Hid (Pu n (j + 1) (a.free (hAt L k).1.toNat (.string ⟨#[]⟩)) (cut L k) (cut H k) (G ++ [hAt L k])) := HP.out.free (by rw [HLN.out]; exact hk) (.string ⟨#[]⟩)
              clear HP
              go_wp2_with fail
              refine (freeSS HA3.out (hAt L k).1 (hAt L k).2 HGD.out).mono ?_
              rintro e w4 ⟨rfl, hf4⟩
              obtain ⟨hS4, -⟩ := HS3.out.aftO hf4 HK3.out
              have HS4 : Hid (Sm w w4 B (a.free (hAt L k).1.toNat (.string ⟨#[]⟩)) u7 (.slice (some ⟨gl, 0, none⟩) nL lc) (.slice (some ⟨gh, 0, none⟩) nL sc) L H G) := hS4
              obtain ⟨z0, z1⟩ := hrAt HLN.out hS4.lr k hk
              have HGR : Hid ((w4.alloc (.cells #[.int .i64 (hAt L k).1, .int .i64 (hAt L k).2] 36)).ownsRow 0 36 2 u7 nG (hCells G)) := World.ownsRow.alloc (hS4.gr.formN HGN.out).2 _
              clear hf4 hS4 HA3 HK3 HS3 hw3 k0 k1 k2 q0 q1 q2 q3 q4 r0 r1 HGD
              go_wp2_with (at_builtin; refine appX _ rfl _ _ _ rfl 36 (.agg #[.int .i64 0, .int .i64 0]) 2 16 Try.underlying32 hinfo rfl (by decide) u7 nG (hCells G) rfl HGR.out (some ⟨w4.heap.size, 0, none⟩) 1 1 [.int .i64 (hAt L k).1, .int .i64 (hAt L k).2] rfl rfl ?_ ?_ ?_ (by unfold maxLen; omega) (by omega) ?_)
              · exact news_alloc w4 [.int .i64 (hAt L k).1, .int .i64 (hAt L k).2] 36
              · exact hone _ _
              · intro h
                cases h
              · intro v5 w5 hrow hg hblk
                obtain ⟨a1, a2, a3⟩ := Hr.app HGN.out hrow hg hblk
                have HS5 : Hid (Sm w w5 B (a.free (hAt L k).1.toNat (.string ⟨#[]⟩)) v5 (.slice (some ⟨gl, 0, none⟩) nL lc) (.slice (some ⟨gh, 0, none⟩) nL sc) L H (G ++ [hAt L k])) := HS4.out.turnG a1 a2 a3
                clear hrow hg hblk a1 a2 a3 HS4 HGR z0 z1
                have HLR : Hid (∀ W, Tn [] w5 W → W.ownsRow 0 36 2 (.slice (some ⟨gl, 0, none⟩) nL lc) nL (hCells L)) := fun W hW => (HS5.out.lr.tn hW (by simp)).formN HLN.out |>.2
                have HSR : Hid (∀ W, Tn [] w5 W → W.ownsRow 0 9 1 (.slice (some ⟨gh, 0, none⟩) nL sc) nL (H.map Value.string)) := fun W hW => (HS5.out.sr.tn hW (by simp)).formN HHN.out |>.2
                obtain ⟨a7, ha7⟩ : ∃ a7 : Addr, (if lc = k + 1 then some (⟨gl, 0, none⟩ : Addr) else some ⟨gl, (k + 1) * 2, none⟩) = some a7 := by split <;> exact ⟨_, rfl⟩
                obtain ⟨b7, hb7⟩ : ∃ b7 : Addr, (if sc = k + 1 then some (⟨gh, 0, none⟩ : Addr) else some ⟨gh, k + 1, none⟩) = some b7 := by split <;> exact ⟨_, rfl⟩
                have HL1 : Hid ((hCells (L.take k)).length = k * 2) := by unfold Hid; rw [hCells_length, List.length_take, HLN.out, Nat.min_eq_left (by omega)]
                have HL2 : Hid ((hCells (L.drop (k + 1))).length = (nL - (k + 1)) * 2) := by unfold Hid; rw [hCells_length, List.length_drop, HLN.out]
                have HL3 : Hid (((H.take k).map Value.string).length = k * 1) := by unfold Hid; rw [List.length_map, List.length_take, HHN.out, Nat.min_eq_left (by omega)]; omega
                have HL4 : Hid (((H.drop (k + 1)).map Value.string).length = (nL - (k + 1)) * 1) := by unfold Hid; rw [List.length_map, List.length_drop, HHN.out]; omega
                have HN1 : Hid (∀ W, Tn [] w5 W → ∀ j u, (hCells (L.take k))[j]? = some u → W.cell? ((⟨gl, 0, none⟩ : Addr).add j) = some u) := fun W hW => news_part (HLR.out W hW) 0 (k * 2) (by omega) (by rw [hCells_take]; simp)
                have HN2 : Hid (∀ W, Tn [] w5 W → ∀ j u, (hCells (L.drop (k + 1)))[j]? = some u → W.cell? (a7.add j) = some u) := by
                  by_cases hlast : nL = k + 1
                  · intro W _ j u hu
                    rw [List.drop_of_length_le (by rw [HLN.out]; omega)] at hu
                    simp [hCells] at hu
                  · rw [if_neg (by omega)] at ha7
                    obtain rfl := Option.some.inj ha7
                    exact fun W hW => news_part (HLR.out W hW) ((k + 1) * 2) ((nL - (k + 1)) * 2) (by omega) (by rw [hCells_drop, List.take_of_length_le (by rw [List.length_drop, hCells_length, HLN.out]; omega)])
                have HN3 : Hid (∀ W, Tn [] w5 W → ∀ j u, ((H.take k).map Value.string)[j]? = some u → W.cell? ((⟨gh, 0, none⟩ : Addr).add j) = some u) := fun W hW => news_part (HSR.out W hW) 0 k (by omega) (by rw [List.drop_zero, List.map_take])
                have HN4 : Hid (∀ W, Tn [] w5 W → ∀ j u, ((H.drop (k + 1)).map Value.string)[j]? = some u → W.cell? (b7.add j) = some u) := by
                  by_cases hlast : nL = k + 1
                  · intro W _ j u hu
                    rw [List.drop_of_length_le (by rw [HHN.out]; omega)] at hu
                    simp at hu
                  · rw [if_neg (by omega)] at hb7
                    obtain rfl := Option.some.inj hb7
                    exact fun W hW => news_part (HSR.out W hW) (k + 1) (nL - (k + 1)) (by omega) (by rw [List.map_drop, List.take_of_length_le (by rw [List.length_drop, List.length_map, HHN.out]; omega)])
                have e1 : (k : Int) ≤ (nL : Int) := by omega
                have e2 : (k : Int) ≤ (lc : Int) := by omega
                have e3 : (k : Int) ≤ (sc : Int) := by omega
                have e4 : (k : Int) + 1 ≤ (nL : Int) := by omega
                have e5 : (0 : Int) ≤ (k : Int) := by omega
                have E7 : Hid ((if lc = k + 1 then some (⟨gl, 0, none⟩ : Addr) else some ⟨gl, (k + 1) * 2, none⟩) = some a7) := ha7
                have F7 : Hid ((if sc = k + 1 then some (⟨gh, 0, none⟩ : Addr) else some ⟨gh, k + 1, none⟩) = some b7) := hb7
                have e6 : (0 : Int) ≤ (k : Int) + 1 := by omega
                clear ha7 hb7
                go_wp2_with fail
                refine wp_region_mid (S := fun _ => True) 20 (by kernel_rfl) ?_
                refine wpAnyM_take (i := 0) [] (oi := { dst := some 116, op := Op.move (Operand.tmp 8), type := 32, pos := _, after := #[], guard := none }) (v := .slice (some ⟨gl, 0, none⟩) nL lc) rfl (by kernel_rfl) (by kernel_rfl) (by kernel_rfl) (by kernel_rfl) (fun _ _ _ h => h) (Or.inl ⟨by rfl, ?_⟩) trivial ?_
                · (intro w' hSw; go_simp; try with_reducible rfl)
                try simp only [Act.put, List.setIfInBounds_toArray, List.set_cons_zero, List.set_cons_succ]
                refine wpAnyM_take (i := 1) [] (oi := { dst := some 117, op := Op.move (Operand.tmp 12), type := 3, pos := _, after := #[], guard := none }) (v := .int .i64 (k : Int)) rfl (by kernel_rfl) (by kernel_rfl) (by kernel_rfl) (by kernel_rfl) (fun _ _ _ h => h) (Or.inl ⟨by rfl, ?_⟩) trivial ?_
                · (intro w' hSw; go_simp; try with_reducible rfl)
                try simp only [Act.put, List.setIfInBounds_toArray, List.set_cons_zero, List.set_cons_succ]
                refine wpAnyM_take (i := 2) [] (oi := { dst := some 118, op := Op.slice 32 (Operand.tmp 116) none (some (Operand.tmp 117)) none, type := 32, pos := _, after := #[{ on := 0, ground := Ground.data }, { on := 1, ground := Ground.data }], guard := none }) (v := .slice (some ⟨gl, 0, none⟩) k lc) rfl (by kernel_rfl) (by kernel_rfl) (by kernel_rfl) (by kernel_rfl) (fun _ _ _ h => h) (Or.inl ⟨by rfl, ?_⟩) trivial ?_
                · (intro w' hSw; go_simp; try with_reducible rfl)
                try simp only [Act.put, List.setIfInBounds_toArray, List.set_cons_zero, List.set_cons_succ]
                refine wpAnyM_take (i := 4) [] (oi := { dst := some 120, op := Op.move (Operand.tmp 8), type := 32, pos := _, after := #[], guard := none }) (v := .slice (some ⟨gl, 0, none⟩) nL lc) rfl (by kernel_rfl) (by kernel_rfl) (by kernel_rfl) (by kernel_rfl) (fun _ _ _ h => h) (Or.inl ⟨by rfl, ?_⟩) trivial ?_
                · (intro w' hSw; go_simp; try with_reducible rfl)
                try simp only [Act.put, List.setIfInBounds_toArray, List.set_cons_zero, List.set_cons_succ]
                refine wpAnyM_take (i := 5) [] (oi := { dst := some 121, op := Op.move (Operand.tmp 12), type := 3, pos := _, after := #[], guard := none }) (v := .int .i64 (k : Int)) rfl (by kernel_rfl) (by kernel_rfl) (by kernel_rfl) (by kernel_rfl) (fun _ _ _ h => h) (Or.inl ⟨by rfl, ?_⟩) trivial ?_
                · (intro w' hSw; go_simp; try with_reducible rfl)
                try simp only [Act.put, List.setIfInBounds_toArray, List.set_cons_zero, List.set_cons_succ]
                refine wpAnyM_take (i := 6) [] (oi := { dst := some 122, op := Op.binOp BinOp.add 3 (Operand.tmp 121) (Operand.const (Value.int IntKind.i64 1)) 3, type := 3, pos := _, after := #[{ on := 5, ground := Ground.data }], guard := none }) (v := .int .i64 ((k : Int) + 1)) rfl (by kernel_rfl) (by kernel_rfl) (by kernel_rfl) (by kernel_rfl) (fun _ _ _ h => h) (Or.inl ⟨by rfl, ?_⟩) trivial ?_
                · (intro w' hSw; go_simp; exact wrap_id9 (by omega))
                try simp only [Act.put, List.setIfInBounds_toArray, List.set_cons_zero, List.set_cons_succ]
                refine wpAnyM_take (i := 7) [] (oi := { dst := some 123, op := Op.slice 32 (Operand.tmp 120) (some (Operand.tmp 122)) none none, type := 32, pos := _, after := #[{ on := 4, ground := Ground.data }, { on := 6, ground := Ground.data }], guard := none }) (v := .slice (some a7) (nL - (k + 1)) (lc - (k + 1))) rfl (by kernel_rfl) (by kernel_rfl) (by kernel_rfl) (by kernel_rfl) (fun _ _ _ h => h) (Or.inl ⟨by rfl, ?_⟩) trivial ?_
                · (intro w' hSw; go_simp; exact E7.out)
                try simp only [Act.put, List.setIfInBounds_toArray, List.set_cons_zero, List.set_cons_succ]
                refine wpAnyM_take (i := 9) [] (oi := { dst := some 125, op := Op.move (Operand.tmp 9), type := 44, pos := _, after := #[], guard := none }) (v := .slice (some ⟨gh, 0, none⟩) nL sc) rfl (by kernel_rfl) (by kernel_rfl) (by kernel_rfl) (by kernel_rfl) (fun _ _ _ h => h) (Or.inl ⟨by rfl, ?_⟩) trivial ?_
                · (intro w' hSw; go_simp; try with_reducible rfl)
                try simp only [Act.put, List.setIfInBounds_toArray, List.set_cons_zero, List.set_cons_succ]
                refine wpAnyM_take (i := 10) [] (oi := { dst := some 126, op := Op.move (Operand.tmp 12), type := 3, pos := _, after := #[], guard := none }) (v := .int .i64 (k : Int)) rfl (by kernel_rfl) (by kernel_rfl) (by kernel_rfl) (by kernel_rfl) (fun _ _ _ h => h) (Or.inl ⟨by rfl, ?_⟩) trivial ?_
                · (intro w' hSw; go_simp; try with_reducible rfl)
                try simp only [Act.put, List.setIfInBounds_toArray, List.set_cons_zero, List.set_cons_succ]
                refine wpAnyM_take (i := 11) [] (oi := { dst := some 127, op := Op.slice 44 (Operand.tmp 125) none (some (Operand.tmp 126)) none, type := 44, pos := _, after := #[{ on := 9, ground := Ground.data }, { on := 10, ground := Ground.data }], guard := none }) (v := .slice (some ⟨gh, 0, none⟩) k sc) rfl (by kernel_rfl) (by kernel_rfl) (by kernel_rfl) (by kernel_rfl) (fun _ _ _ h => h) (Or.inl ⟨by rfl, ?_⟩) trivial ?_
                · (intro w' hSw; go_simp; try with_reducible rfl)
                try simp only [Act.put, List.setIfInBounds_toArray, List.set_cons_zero, List.set_cons_succ]
                refine wpAnyM_take (i := 13) [] (oi := { dst := some 129, op := Op.move (Operand.tmp 9), type := 44, pos := _, after := #[], guard := none }) (v := .slice (some ⟨gh, 0, none⟩) nL sc) rfl (by kernel_rfl) (by kernel_rfl) (by kernel_rfl) (by kernel_rfl) (fun _ _ _ h => h) (Or.inl ⟨by rfl, ?_⟩) trivial ?_
                · (intro w' hSw; go_simp; try with_reducible rfl)
                try simp only [Act.put, List.setIfInBounds_toArray, List.set_cons_zero, List.set_cons_succ]
                refine wpAnyM_take (i := 14) [] (oi := { dst := some 130, op := Op.move (Operand.tmp 12), type := 3, pos := _, after := #[], guard := none }) (v := .int .i64 (k : Int)) rfl (by kernel_rfl) (by kernel_rfl) (by kernel_rfl) (by kernel_rfl) (fun _ _ _ h => h) (Or.inl ⟨by rfl, ?_⟩) trivial ?_
                · (intro w' hSw; go_simp; try with_reducible rfl)
                try simp only [Act.put, List.setIfInBounds_toArray, List.set_cons_zero, List.set_cons_succ]
                refine wpAnyM_take (i := 15) [] (oi := { dst := some 131, op := Op.binOp BinOp.add 3 (Operand.tmp 130) (Operand.const (Value.int IntKind.i64 1)) 3, type := 3, pos := _, after := #[{ on := 14, ground := Ground.data }], guard := none }) (v := .int .i64 ((k : Int) + 1)) rfl (by kernel_rfl) (by kernel_rfl) (by kernel_rfl) (by kernel_rfl) (fun _ _ _ h => h) (Or.inl ⟨by rfl, ?_⟩) trivial ?_
                · (intro w' hSw; go_simp; exact wrap_id9 (by omega))
                try simp only [Act.put, List.setIfInBounds_toArray, List.set_cons_zero, List.set_cons_succ]
                refine wpAnyM_take (i := 16) [] (oi := { dst := some 132, op := Op.slice 44 (Operand.tmp 129) (some (Operand.tmp 131)) none none, type := 44, pos := _, after := #[{ on := 13, ground := Ground.data }, { on := 15, ground := Ground.data }], guard := none }) (v := .slice (some b7) (nL - (k + 1)) (sc - (k + 1))) rfl (by kernel_rfl) (by kernel_rfl) (by kernel_rfl) (by kernel_rfl) (fun _ _ _ h => h) (Or.inl ⟨by rfl, ?_⟩) trivial ?_
                · (intro w' hSw; go_simp; exact F7.out)
                try simp only [Act.put, List.setIfInBounds_toArray, List.set_cons_zero, List.set_cons_succ]
                refine wpAnyM_ready (rs := [3]) (by kernel_rfl) (by simp) ?_
                refine AllReadyM.cons (o := { dst := some 119, op := Op.call { callee := Callee.builtin Builtin.append, args := #[Operand.const (Value.slice none 0 0), Operand.tmp 118], argTypes := #[32, 32] }, type := 32, pos := _, after := #[{ on := 2, ground := Ground.data }], guard := none }) rfl (fun K hK => ?_) AllReadyM.nil
                have HK9 : Hid (∀ a w, _ → K a w) := hK
                clear hK
                refine stepX rfl _ _ 32 rfl 36 (.agg #[.int .i64 0, .int .i64 0]) 2 16 Try.underlying32 hinfo rfl (by decide) (.slice none 0 0) 0 [] (by go_simp) (World.ownsRow_nil _ _ _ _) ⟨gl, 0, none⟩ k lc (hCells (L.take k)) (by go_simp) HL1.out (HN1.out _ (by repeat (first | exact Tn.refl _ _ | refine Tn.drew ?_))) (hcells_one _) (by unfold maxLen; omega) (by omega) ?_
                intro v1 w6 r1 g1 b1
                have c1 : Tn [] w5 _ := tnB g1 (by repeat (first | exact Tn.refl _ _ | refine Tn.drew ?_))
                have u1 := tnH g1 c1 (fun q hq => by cases hq)
                have n1 := newer c1 b1
                refine HK9.out _ _ ⟨fun _ => trivial, ?_⟩
                clear HK9 K
                try simp only [Act.put, List.setIfInBounds_toArray, List.set_cons_zero, List.set_cons_succ]
                refine wpAnyM_ready (rs := [8]) (by kernel_rfl) (by simp) ?_
                refine AllReadyM.cons (o := { dst := some 124, op := Op.call { callee := Callee.builtin Builtin.append, args := #[Operand.tmp 119, Operand.tmp 123], argTypes := #[32, 32] }, type := 32, pos := _, after := #[{ on := 3, ground := Ground.data }, { on := 7, ground := Ground.data }, { on := 3, ground := Ground.chain }], guard := none }) rfl (fun K hK => ?_) AllReadyM.nil
                have HK9 : Hid (∀ a w, _ → K a w) := hK
                clear hK
                refine stepX rfl _ _ 32 rfl 36 (.agg #[.int .i64 0, .int .i64 0]) 2 16 Try.underlying32 hinfo rfl (by decide) v1 (0 + k) ([] ++ hCells (L.take k)) (by go_simp) r1 a7 (nL - (k + 1)) (lc - (k + 1)) (hCells (L.drop (k + 1))) (by go_simp) HL2.out (HN2.out _ (by repeat (first | exact u1 | refine Tn.drew ?_))) (hcells_one _) (by unfold maxLen; omega) (by omega) ?_
                intro v2 w7 r2 g2 b2
                have c2 : Tn [] w6 _ := tnB g2 (by repeat (first | exact Tn.refl _ _ | refine Tn.drew ?_))
                have u2 := tnH g2 (u1.trans c2 (by simp)) n1
                refine HK9.out _ _ ⟨fun _ => trivial, ?_⟩
                clear HK9 K
                try simp only [Act.put, List.setIfInBounds_toArray, List.set_cons_zero, List.set_cons_succ]
                refine wpAnyM_ready (rs := [12]) (by kernel_rfl) (by simp) ?_
                refine AllReadyM.cons (o := { dst := some 128, op := Op.call { callee := Callee.builtin Builtin.append, args := #[Operand.const (Value.slice none 0 0), Operand.tmp 127], argTypes := #[44, 44] }, type := 44, pos := _, after := #[{ on := 11, ground := Ground.data }, { on := 8, ground := Ground.chain }], guard := none }) rfl (fun K hK => ?_) AllReadyM.nil
                have HK9 : Hid (∀ a w, _ → K a w) := hK
                clear hK
                refine stepX rfl _ _ 44 rfl 9 (.string ⟨#[]⟩) 1 16 Try.underlying44 strinfo rfl (by decide) (.slice none 0 0) 0 [] (by go_simp) (World.ownsRow_nil _ _ _ _) ⟨gh, 0, none⟩ k sc ((H.take k).map Value.string) (by go_simp) HL3.out (HN3.out _ (by repeat (first | exact u2 | refine Tn.drew ?_))) (strs_one _) (by unfold maxLen; omega) (by omega) ?_
                intro v3 w8 r3 g3 b3
                have c3 : Tn [] w7 _ := tnB g3 (by repeat (first | exact Tn.refl _ _ | refine Tn.drew ?_))
                have u3 := tnH g3 (u2.trans c3 (by simp)) (fun q hq => by cases hq)
                have n3 := newer c3 b3
                refine HK9.out _ _ ⟨fun _ => trivial, ?_⟩
                clear HK9 K
                try simp only [Act.put, List.setIfInBounds_toArray, List.set_cons_zero, List.set_cons_succ]
                refine wpAnyM_ready (rs := [17]) (by kernel_rfl) (by simp) ?_
                refine AllReadyM.cons (o := { dst := some 133, op := Op.call { callee := Callee.builtin Builtin.append, args := #[Operand.tmp 128, Operand.tmp 132], argTypes := #[44, 44] }, type := 44, pos := _, after := #[{ on := 12, ground := Ground.data }, { on := 16, ground := Ground.data }, { on := 12, ground := Ground.chain }], guard := none }) rfl (fun K hK => ?_) AllReadyM.nil
                have HK9 : Hid (∀ a w, _ → K a w) := hK
                clear hK
                refine stepX rfl _ _ 44 rfl 9 (.string ⟨#[]⟩) 1 16 Try.underlying44 strinfo rfl (by decide) v3 (0 + k) ([] ++ (H.take k).map Value.string) (by go_simp) r3 b7 (nL - (k + 1)) (sc - (k + 1)) ((H.drop (k + 1)).map Value.string) (by go_simp) HL4.out (HN4.out _ (by repeat (first | exact u3 | refine Tn.drew ?_))) (strs_one _) (by unfold maxLen; omega) (by omega) ?_
                intro v4 w9 r4 g4 b4
                have c4 : Tn [] w8 _ := tnB g4 (by repeat (first | exact Tn.refl _ _ | refine Tn.drew ?_))
                refine HK9.out _ _ ⟨fun _ => trivial, ?_⟩
                clear HK9 K
                try simp only [Act.put, List.setIfInBounds_toArray, List.set_cons_zero, List.set_cons_succ]
                refine wpAnyM_ready (rs := [18]) (by kernel_rfl) (by simp) ?_
                refine AllReadyM.cons (o := { dst := some 8, op := Op.assign (Operand.tmp 124), type := 32, pos := _, after := #[{ on := 8, ground := Ground.data }, { on := 17, ground := Ground.chain }, { on := 0, ground := Ground.phase }, { on := 1, ground := Ground.phase }, { on := 2, ground := Ground.phase }, { on := 3, ground := Ground.phase }, { on := 4, ground := Ground.phase }, { on := 5, ground := Ground.phase }, { on := 6, ground := Ground.phase }, { on := 7, ground := Ground.phase }, { on := 8, ground := Ground.phase }, { on := 9, ground := Ground.textOnly Departure.lateStores }, { on := 10, ground := Ground.textOnly Departure.lateStores }, { on := 11, ground := Ground.textOnly Departure.lateStoresUnsure }, { on := 12, ground := Ground.textOnly Departure.lateStoresUnsure }, { on := 13, ground := Ground.textOnly Departure.lateStores }, { on := 14, ground := Ground.textOnly Departure.lateStores }, { on := 15, ground := Ground.textOnly Departure.lateStores }, { on := 16, ground := Ground.textOnly Departure.lateStoresUnsure }, { on := 17, ground := Ground.textOnly Departure.lateStoresUnsure }], guard := none }) rfl (fun K hK => ?_) AllReadyM.nil
                have HK9 : Hid (∀ a w, _ → K a w) := hK
                clear hK
                go_simp
                refine HK9.out _ _ ⟨fun _ => trivial, ?_⟩
                clear HK9 K
                try simp only [Act.put, List.setIfInBounds_toArray, List.set_cons_zero, List.set_cons_succ]
                refine wpAnyM_ready (rs := [19]) (by kernel_rfl) (by simp) ?_
                refine AllReadyM.cons (o := { dst := some 9, op := Op.assign (Operand.tmp 133), type := 44, pos := _, after := #[{ on := 17, ground := Ground.data }, { on := 18, ground := Ground.chain }, { on := 0, ground := Ground.phase }, { on := 1, ground := Ground.phase }, { on := 2, ground := Ground.phase }, { on := 3, ground := Ground.phase }, { on := 4, ground := Ground.phase }, { on := 5, ground := Ground.phase }, { on := 6, ground := Ground.phase }, { on := 7, ground := Ground.phase }, { on := 8, ground := Ground.phase }, { on := 9, ground := Ground.phase }, { on := 10, ground := Ground.phase }, { on := 11, ground := Ground.phase }, { on := 12, ground := Ground.phase }, { on := 13, ground := Ground.phase }, { on := 14, ground := Ground.phase }, { on := 15, ground := Ground.phase }, { on := 16, ground := Ground.phase }, { on := 17, ground := Ground.phase }, { on := 18, ground := Ground.phase }], guard := none }) rfl (fun K hK => ?_) AllReadyM.nil
                have HK9 : Hid (∀ a w, _ → K a w) := hK
                clear hK
                go_simp
                refine HK9.out _ _ ⟨fun _ => trivial, ?_⟩
                clear HK9 K
                try simp only [Act.put, List.setIfInBounds_toArray, List.set_cons_zero, List.set_cons_succ]
                refine wpAnyM_done (by kernel_rfl) ?_ _
                have HN : Hid (Sm w w9 B (a.free (hAt L k).1.toNat (.string ⟨#[]⟩)) v5 v2 v4 (cut L k) (cut H k) (G ++ [hAt L k])) := HS5.out.cutLS hk HLN.out HHN.out c1 g1 b1 r1 c2 g2 b2 r2 c3 g3 b3 r3 c4 g4 b4 r4
                clear HLR HSR HL1 HL2 HL3 HL4 HN1 HN2 HN3 HN4 HS5 E7 F7
                go_wp2
                go_roundw
                case rel => exact ⟨j + 1, _, _, _, _, by omega, by go_num, HP4, HN⟩
                case measure => simp [intOf]; omega
            · have hd3 : (dd == 3) = false := by simpa using hfr
              by_cases hst : dd = 2
              · have hd2 : (dd == 2) = true := by simp [hst]
                clear hst hfr
                obtain ⟨gl, cl, el⟩ := row_some (HS3.out.lr.formN HLN.out).2 (by omega)
                cases el
                have HHN : Hid (H.length = nL) := HP.out.lens.trans HLN.out
                obtain ⟨gh, ch, eh⟩ := row_some (HS3.out.sr.formN HHN.out).2 (by omega)
                cases eh
                obtain ⟨r0, r1⟩ := hrAt HLN.out HS3.out.lr k hk
                have HGD : Hid (a.Good (hAt L k).1 (hAt L k).2) := (HP.out.good k (by rw [HLN.out]; exact hk)).1
                have HP4 : Hid (Pu n (j + 1) (a.set (hAt L k).1.toNat (.string tx)) L (H.set k tx) G) := HP.out.set (by rw [HLN.out]; exact hk) tx
                have HAD : Hid (AsS w.heap.size w3.drew B a (wr.heap.size :: bl3 u7 (.slice (some ⟨gl, 0, none⟩) nL lc) (.slice (some ⟨gh, 0, none⟩) nL sc))) := HA3.out.quiet (Tn.refl [] w3).drew
                have HSD : Hid (Sm w w3.drew B a u7 (.slice (some ⟨gl, 0, none⟩) nL lc) (.slice (some ⟨gh, 0, none⟩) nL sc) L H G) := HS3.out.quiet (Tn.refl [] w3).drew
                have HKD : Hid (Bk w3.drew wr.heap.size 38 #[.int .i64 dd, .int .i64 use, .string tx, .int .i64 gs, .int .i64 gg]) := HK3.out
                clear HP HA3 HS3 HK3
                go_wp2_with fail
                go_region_held3 (fun w' => w'.cell? ⟨gl, k * 2, none⟩ = some (.int .i64 (hAt L k).1) ∧ w'.cell? ⟨gl, k * 2 + 1, none⟩ = some (.int .i64 (hAt L k).2) ∧ w'.cell? ⟨wr.heap.size, 2, none⟩ = some (.string tx)) (go_keep) (first | (go_at_call 18; refine (setSS HAD.out _ _ tx HGD.out).mono ?_; rintro e w4 ⟨rfl, hf4⟩; obtain ⟨hS4, hk4⟩ := HSD.out.aftO hf4 HKD.out; obtain ⟨z0, z1⟩ := hrAt HLN.out hS4.lr k hk; have y2 := (acells hk4).2.2))
                have HS4 : Hid _ := hS4
                have s0 := Sr.cell HHN.out hS4.sr k hk
                have sf : w4.frozen? ⟨gh, k, none⟩ = false := World.ownsRow.frozenAt (hS4.sr.formN HHN.out).2 k
                have HS5 : Hid (Sm w (w4.setCell ⟨gh, k, none⟩ (.string tx)) B (a.set (hAt L k).1.toNat (.string tx)) u7 (.slice (some ⟨gl, 0, none⟩) nL lc) (.slice (some ⟨gh, 0, none⟩) nL sc) L (H.set k tx) G) := hS4.put1 HHN.out k tx
                clear hS4 hk4 hf4 HAD HSD HKD HS4
                go_wp2
                go_roundw
                case rel => exact ⟨j + 1, _, _, _, _, by omega, by go_num, HP4, HS5⟩
                case measure => simp [intOf]; omega
              · have hd2 : (dd == 2) = false := by simpa using hst
                clear hst hfr
                have HP4 : Hid (Pu n (j + 1) a L H G) := HP.out.more
                clear HA3 HK3 HP
                go_wp2
                go_roundw
                case rel => exact ⟨j + 1, _, _, _, _, by omega, by go_num, HP4, HS3⟩
                case measure => simp [intOf]; omega
          · obtain rfl : nL = 0 := by omega
            have HP4 : Hid (Pu n (j + 1) a L H G) := HP.out.more
            clear HA3 HK3 HP
            go_wp2
            go_roundw
            case rel => exact ⟨j + 1, _, _, _, _, by omega, by go_num, HP4, HS3⟩
            case measure => simp [intOf]; omega
      · have hji : ¬ (j : Int) < (len : Int) := by omega
        obtain ⟨nL, hnL⟩ : ∃ nL, L.length = nL := ⟨_, rfl⟩
        obtain ⟨nG, hnG⟩ : ∃ nG, G.length = nG := ⟨_, rfl⟩
        have hnj : nL ≤ len := by have := HP.out.llen; omega
        have hgj : nG ≤ len := by have := HP.out.glen; omega
        obtain ⟨⟨lp, lc, rfl⟩, -⟩ := HS.out.lr.formN hnL
        obtain ⟨⟨sp, sc, rfl⟩, -⟩ := HS.out.sr.formN (HP.out.lens.trans hnL)
        obtain ⟨⟨gp, gc, rfl⟩, -⟩ := HS.out.gr.formN hnG
        have HLN : Hid (L.length = nL) := hnL
        have HGN : Hid (G.length = nG) := hnG
        have HHN : Hid (H.length = nL) := HP.out.lens.trans hnL
        clear hnL hnG
        go_wp2_with fail
        go_loopw [155] (fun iv wq => ∃ i : Nat, i ≤ nL ∧ iv = .int .i64 i ∧ Hid (Sm w wq B a (.slice gp nG gc) (.slice lp nL lc) (.slice sp nL sc) L H G)) (fun iv _ => nL - (intOf iv).toNat)
        case atStart => exact ⟨0, Nat.zero_le _, rfl, HS⟩
        case round =>
          obtain ⟨i, hi, rfl, HT⟩ := hrel
          clear HS
          by_cases hil : i < nL
          · have hii : (i : Int) < (nL : Int) := by omega
            obtain ⟨gl, cl, el⟩ := row_some (HT.out.lr.formN HLN.out).2 (by omega)
            cases el
            obtain ⟨gh, ch, eh⟩ := row_some (HT.out.sr.formN HHN.out).2 (by omega)
            cases eh
            obtain ⟨r0, r1⟩ := hrAt HLN.out HT.out.lr i hil
            obtain ⟨hgd, hval⟩ := HP.out.good i (by rw [HLN.out]; exact hil)
            have HGD : Hid (a.Good (hAt L i).1 (hAt L i).2) := hgd
            have HVL : Hid ((slAt a.us (hAt L i).1.toNat).val = .string (tAt H i)) := hval
            clear hgd hval
            obtain ⟨w3, hw3, ht3, hk3, hz3⟩ := hbox wr (hAt L i).1 (hAt L i).2
            have HT3 : Hid (Sm w w3 B a (.slice gp nG gc) (.slice (some ⟨gl, 0, none⟩) nL lc) (.slice (some ⟨gh, 0, none⟩) nL sc) L H G) := HT.out.quiet ht3
            obtain ⟨k0, k1⟩ := hcells hk3
            clear HT ht3 hk3
            go_wp2_with fail
            refine (getSS HT3.out.ar _ _ HGD.out).mono ?_
            rintro e w4 ⟨rfl, ht4⟩
            rw [HVL.out]
            have HT4 : Hid (Sm w w4 B a (.slice gp nG gc) (.slice (some ⟨gl, 0, none⟩) nL lc) (.slice (some ⟨gh, 0, none⟩) nL sc) L H G) := HT3.out.quiet ht4
            have s0 := Sr.cell HHN.out HT4.out.sr i hil
            clear ht4 HT3 k0 k1 r0 r1 hw3
            go_wp2
            go_roundw
            case rel => exact ⟨i + 1, by omega, by go_num, HT4⟩
            case measure => simp [intOf]; omega
          · have hii : ¬ (i : Int) < (nL : Int) := by omega
            go_wp2_with fail
            go_loopw [179] (fun iv wq => ∃ (i : Nat) (a' : Ar), i ≤ nG ∧ iv = .int .i64 i ∧ a'.us = a.us ∧ a'.size = a.size ∧ a'.stale = 3 * (i : Int) ∧ Hid (Sm w wq B a' (.slice gp nG gc) (.slice lp nL lc) (.slice sp nL sc) L H G)) (fun iv _ => nG - (intOf iv).toNat)
            case atStart => exact ⟨0, a, Nat.zero_le _, rfl, rfl, rfl, by rw [HP.out.stale]; rfl, HT⟩
            case round =>
              obtain ⟨i, a', hi2, rfl, hus, hsz, hst, HT2⟩ := hrel
              clear HT
              by_cases hig : i < nG
              · have hii2 : (i : Int) < (nG : Int) := by omega
                obtain ⟨gl, cl, el⟩ := row_some (HT2.out.gr.formN HGN.out).2 (by omega)
                cases el
                obtain ⟨r0, r1⟩ := hrAt HGN.out HT2.out.gr i hig
                have HBD : Hid (∀ a'' : Ar, a''.us = a.us → ¬ a''.Good (hAt G i).1 (hAt G i).2) := by
                  intro a'' he hg
                  have hb := HP.out.bad (hAt_mem (L := G) (i := i) (by rw [HGN.out]; exact hig))
                  unfold Ar.Good at hg hb
                  rw [he] at hg
                  exact hb hg
                obtain ⟨w3, hw3, ht3, hk3, hz3⟩ := hbox wr (hAt G i).1 (hAt G i).2
                have HT3 : Hid (Sm w w3 B a' (.slice (some ⟨gl, 0, none⟩) nG gc) (.slice lp nL lc) (.slice sp nL sc) L H G) := HT2.out.quiet ht3
                have HA3 : Hid (AsS w.heap.size w3 B a' (wr.heap.size :: bl3 (.slice (some ⟨gl, 0, none⟩) nG gc) (.slice lp nL lc) (.slice sp nL sc))) := HT2.out.ar.add ht3 (Nat.le_refl _) (by omega)
                have HK3 : Hid (Bk w3 wr.heap.size 36 #[.int .i64 (hAt G i).1, .int .i64 (hAt G i).2]) := hk3
                obtain ⟨k0, k1⟩ := hcells hk3
                clear HT2 ht3 hk3
                go_wp2_with fail
                refine (getBadSS HA3.out _ _ (HBD.out _ hus) (by omega) (by omega)).mono ?_
                rintro e w4 ⟨rfl, hf4⟩
                obtain ⟨hS4, hk4⟩ := HT3.out.aftO hf4 HK3.out
                have HA4 : Hid _ := hf4.1
                have HS4 : Hid _ := hS4
                have HK4 : Hid _ := hk4
                obtain ⟨x0, x1⟩ := hcells hk4
                clear HA3 HK3 HT3 hf4 hS4 hk4 k0 k1 r0 r1 hw3
                go_wp2_with fail
                refine (setBadSS HA4.out _ _ ⟨#[122]⟩ (HBD.out _ hus) (by show 0 ≤ a'.stale + 1; omega) (by show a'.stale + 1 < _; omega)).mono ?_
                rintro e w5 ⟨rfl, hf5⟩
                obtain ⟨hS5, hk5⟩ := HS4.out.aftO hf5 HK4.out
                have HA5 : Hid _ := hf5.1
                have HS5 : Hid _ := hS5
                have HK5 : Hid _ := hk5
                obtain ⟨y0, y1⟩ := hcells hk5
                clear HA4 HK4 HS4 hf5 hS5 hk5 x0 x1
                go_wp2_with fail
                refine (freeBadSS HA5.out _ _ (HBD.out _ hus) (by show 0 ≤ a'.stale + 1 + 1; omega) (by show a'.stale + 1 + 1 < _; omega)).mono ?_
                rintro e w6 ⟨rfl, hf6⟩
                obtain ⟨hS6, -⟩ := HS5.out.aftO hf6 HK5.out
                have HS6 : Hid _ := hS6
                clear HA5 HK5 HS5 hf6 hS6 y0 y1
                go_wp2
                go_roundw
                case rel => exact ⟨i + 1, a'.bad.bad.bad, by omega, by go_num, hus, hsz, by show a'.stale + 1 + 1 + 1 = _; omega, HS6⟩
                case measure => simp [intOf]; omega
              · have hii2 : ¬ (i : Int) < (nG : Int) := by omega
                have hig2 : i = nG := by omega
                go_wp2_with fail
                refine (liveSS HT2.out.ar).mono ?_
                rintro e w4 ⟨rfl, ht4⟩
                rw [hus, HP.out.liv, HLN.out]
                have HT4 : Hid _ := HT2.out.quiet ht4
                clear ht4 HT2
                go_wp2_with fail
                refine (staleSS HT4.out.ar).mono ?_
                rintro e w5 ⟨rfl, rfl⟩
                rw [hst, hig2]
                have HE : Hid _ := HT4.out.bel
                clear HT4
                go_wp2
                go_ret
                exact ⟨by simp, HE.out⟩

set_option maxRecDepth 100000 in
set_option maxHeartbeats 2000000 in
theorem lifted_arenaStale (os : Os) (started : os.Started) (H : Type) (enc : TypeId × Value → H) :
    ReturnsInHanded {} Try.checked os 4 .any (Rows.arenaStaleSpec.pre6 enc Try.prog Try.f4 Rows.arenaStaleRow.domain false) (Rows.arenaStaleSpec.post enc Try.prog Try.f4 false true false false) := by
  refine returnsInHanded_of_change_sized (C := Try.checked) own started (by kernel_rfl) Try.func4
    (ChangeSpec.witness6 (enc := enc) (C := Try.checked) false ⟨#[], #[.int .i64 0, .slice none 0 0], []⟩ 8 (by kernel_rfl) (by kernel_rfl) (by kernel_rfl) (by kernel_rfl)) ?_
  intro W base args ds gs before hval0 hW _ hsz0 _
  have hsz : (DataW.weightsEach Try.prog (Try.f4.params.toList ++ Rows.arenaStaleSpec.plain.varTypes Try.prog) (ds ++ gs)).all (· ≤ reachBytes) = true := hsz0
  clear hsz0
  have hval : ∀ (j : Nat) t v, Try.f4.params[j]? = some t → args[j]? = some v → Value.okWide Try.prog W .any base t v := hval0
  have hW' := hW
  obtain ⟨p, q, hA0, hV, rfl, hfz, hnd⟩ := hW
  have hA : DataW.TrodAll enc Try.prog W 0 (fun _ => true) true Try.f4.params.toList args.toList ds p := hA0
  rw [Try.params4] at hA hval hsz
  obtain ⟨v0, vs0, d0, ds0, p0, q0, hargs, rfl, rfl, h0, r0⟩ := trodAll_cons hA
  obtain ⟨v1, vs1, d1, ds1, p1, q1, rfl, rfl, rfl, h1, r1⟩ := trodAll_cons r0
  obtain ⟨rfl, rfl, rfl⟩ := trodAll_nil r1
  obtain rfl : args = #[v0, v1] := by cases args; simp_all
  obtain ⟨rfl, rfl⟩ := trodVars_none hV
  obtain ⟨a0, rfl, rfl, rfl, w0⟩ := open_int Try.underlying3 (hval 0 3 v0 rfl rfl) h0
  obtain ⟨a1, len1, cap1, rfl⟩ := okWide_slice Try.underlying22 (hval 1 22 v1 rfl rfl)
  have k1 := h1
  have lt1 : ∀ x ∈ p1, x.block < W.heap.size := by obtain ⟨m, hm⟩ := k1; exact DataW.trod_lt m _ _ _ hm
  obtain ⟨z1, w1⟩ : ∃ l, InA W a1 len1 cap1 l := by
    refine in_aops h1 fun n hn => ?_
    have := of_decide_eq_true (List.all_eq_true.1 hsz _ (DataW.weights_mem_each (j := 1) (t := 22) rfl rfl n hn))
    simp only [reachBytes] at this
    omega
  clear hA0 hval0
  refine (walk_arenaStale a0 a1 len1 cap1 z1 W w0 w1).mono fun e W' ⟨he, bel⟩ => ?_
  subst he
  exact ⟨_, rfl, _, _, _, [], _, [], hW', trodAll_mk1 (shut_bool Try.underlying4 _), (trodAll_cons_mk (shut_int Try.underlying3 w0) (trodAll_cons_mk (Below.trod laidOut (by kernel_rfl) (of_decide_eq_true (by kernel_rfl)) k1 bel lt1) trodAll_mk0)), rfl, bel.frame _, fun h => by cases h⟩

/-- The statement. -/
theorem arenaStale_holds : Rows.ArenaStaleSaid :=
  OpenClaim.holds_of_wide 4 Try.f4 rfl rfl rfl rfl rfl rfl rfl ⟨rfl, rfl, rfl, rfl, rfl⟩ rfl rfl rfl rfl rfl (by kernel_rfl) Try.func4 (by kernel_rfl)
    (of_decide_eq_true (by kernel_rfl)) (by unfold Func.isWrapper; first | (rw [if_pos (by decide +kernel)]; kernel_rfl) | (rw [if_neg (by decide +kernel)]; exact ⟨rfl, rfl⟩))
    (fun os started H enc _ => lifted_arenaStale os started H enc)
#print axioms arenaStale_holds
end Go.Proofs.Ytfhebfdhkekkaaa
