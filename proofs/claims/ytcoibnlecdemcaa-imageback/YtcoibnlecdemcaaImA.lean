/- Add, and what is asked of an image. -/
import Derived.Test.YtcoibnlecdemcaaImM
import Derived.Test.YtcoibnlecdemcaaVsB
import Derived.Deep.RegionLaw
namespace Go.Proofs.Ytcoibnlecdemcaa
open Go.RowKit
set_option linter.unusedVariables false
set_option maxRecDepth 100000

theorem IsIm.setLast {w : World} {base B : Nat} {v : Value} {m : Im} (h : IsIm w base B v m) (k : ByteArray) : IsIm (w.setCell ⟨B, 2, none⟩ (.string k)) base B v ⟨m.ts, k, m.list⟩ :=
  ⟨h.blk.set 2 _, h.row.tn ((Tn.refl [B] w).setCell (.inl (by simp)) _) (fun g hg hm => h.ne g hg (by simpa using hm)), h.ne⟩

theorem isMade_any {w : World} {base B : Nat} {v : Value} {m : Im} (h : IsIm w base B v m) : Calls Try.prog 33 #[.pointer (some ⟨B, 0, none⟩)] w fun e w' => e = .returned (.bool true) ∧ w' = w := by
  have c0 : w.cell? ⟨B, 0, none⟩ = some (.bool true) := h.blk.cell 0
  clear h
  go_enter Try.func33, Try.ntmps33
  go_wp2
  go_ret
  exact ⟨rfl, rfl⟩

set_option maxHeartbeats 1000000 in
theorem mayAdd_any {w : World} {base B : Nat} {v : Value} {m : Im} (h : IsIm w base B v m) (k : ByteArray) (p : Option Addr) (n c : Nat) (l : List Vs) (hn : l.length = n) (hx : Vrs w p l) (ho : Vr.Okl l) (hl : n ≤ 4611686018427387904) :
    Calls Try.prog 34 #[.pointer (some ⟨B, 0, none⟩), .string k, .slice p n c] w fun e w' => e = .returned (.int .i64 (m.mayE k l)) ∧ Below w.heap.size w w' := by
  have c2 : w.cell? ⟨B, 2, none⟩ = some (.string m.last) := h.blk.cell 2
  have hck := check_any p n c l w hn hx ho hl
  clear h hn hx ho hl
  go_enter Try.func34, Try.ntmps34
  go_wp2_with fail
  refine (Rk.key_any k _).mono ?_
  rintro e w1 ⟨rfl, rfl⟩
  by_cases h1 : Rk.Rc.keyE k = 0
  · have hb : (Rk.Rc.keyE k != 0) = false := by simpa using h1
    by_cases h2 : Rk.Rc.le k m.last = true
    · have hle : (Op.bytesLess k.toList m.last.toList || k.toList == m.last.toList) = true := h2
      have HE : Hid (m.mayE k l = 150) := by unfold Hid Im.mayE; rw [if_pos h1, if_pos h2]
      clear h1 h2
      go_wp2
      go_ret
      exact ⟨by rw [HE.out]; rfl, Below.refl _ _⟩
    · have hle : (Op.bytesLess k.toList m.last.toList || k.toList == m.last.toList) = false := (Bool.not_eq_true _).mp h2
      have HE : Hid (m.mayE k l = Vr.check l) := by unfold Hid Im.mayE; rw [if_pos h1, if_neg h2]
      clear h1 h2
      go_wp2_with fail
      refine hck.mono ?_
      rintro e w2 ⟨rfl, hb2⟩
      have HB : Hid (Below w1.heap.size w1 w2) := hb2
      clear hb2 hck
      go_wp2
      go_ret
      exact ⟨by rw [HE.out]; rfl, HB.out⟩
  · have hb : (Rk.Rc.keyE k != 0) = true := by simpa using h1
    have HE : Hid (m.mayE k l = Rk.Rc.keyE k) := by unfold Hid Im.mayE; rw [if_neg h1]
    clear h1
    go_wp2
    go_ret
    exact ⟨by rw [HE.out]; rfl, Below.refl _ _⟩

/-- What Add leaves. -/
structure Added (w w' : World) (base B : Nat) (v v' : Value) (m' : Im) : Prop where
  is : IsIm w' base B v' m'
  tn : Tn (B :: v.ownBlock.toList) w w'
  nw : Nw w v v'

set_option maxHeartbeats 2000000 in
theorem add_any {w : World} {base B : Nat} {v : Value} {m : Im} (h : IsIm w base B v m) (hbase : base ≤ w.heap.size) (hlen : m.list.length ≤ 65536) (k : ByteArray) (p : Option Addr) (n c : Nat) (l : List Vs) (hn : l.length = n) (hx : Vrs w p l) (ho : Vr.Okl l) (hl : n ≤ 4611686018427387904) :
    Calls Try.prog 12 #[.pointer (some ⟨B, 0, none⟩), .string k, .slice p n c] w fun e w' => e = .returned (.int .i64 (m.addE k l)) ∧ ∃ v', Added w w' base B v v' (m.added k l) := by
  have hmade := isMade_any h
  have hmay := mayAdd_any h k p n c l hn hx ho hl
  have HH : Hid (IsIm w base B v m ∧ base ≤ w.heap.size ∧ m.list.length ≤ 65536) := ⟨h, hbase, hlen⟩
  have HX : Hid (Vrs w p l ∧ l.length = n) := ⟨hx, hn⟩
  clear h hbase hlen hn hx ho
  go_enter Try.func12, Try.ntmps12
  go_wp2_with fail
  refine hmade.mono ?_
  rintro e w1 ⟨rfl, rfl⟩
  go_wp2_with fail
  refine hmay.mono ?_
  rintro e w2 ⟨rfl, hb2⟩
  have HB2 : Hid (Below w1.heap.size w1 w2) := hb2
  have HI2 : Hid (IsIm w2 base B v m) := HH.out.1.below hb2
  have hx2 : Vrs w2 p l := Els.below HX.out.1 hb2 (Nat.le_refl _)
  have c1 : w2.cell? ⟨B, 1, none⟩ = some (.int .i64 m.ts) := HI2.out.blk.cell 1
  clear hmay hmade hb2
  by_cases h0 : m.mayE k l = 0
  · have hne : (m.mayE k l != 0) = false := by simpa using h0
    have H0 : Hid (m.mayE k l = 0) := h0
    have hat := at_any p n c l m.ts w2 HX.out.2 hx2 hl
    clear h0 hx2 hl
    go_wp2_with fail
    refine hat.mono ?_
    rintro e w3 ⟨rfl, hb3⟩
    have HB3 : Hid (Below w1.heap.size w1 w3) := HB2.out.trans (hb3.mono HB2.out.size)
    have HI3 : Hid (IsIm w3 base B v m) := HI2.out.below hb3
    clear hat hb3 c1 HI2 HB2
    cases ha : Vr.at? l m.ts with
    | none =>
      have HS : Hid (m.sees l = none) := by unfold Hid Im.sees; rw [ha]
      have HE : Hid (m.addE k l = 0 ∧ m.added k l = ⟨m.ts, k, m.list⟩) := by unfold Hid Im.added Im.addE; rw [HS.out, if_pos H0.out]; simp
      clear ha
      unfold Vr.atV
      simp only [Option.getD, Option.isSome]
      generalize Vs.zero = z
      obtain ⟨xt, xv, xd⟩ := z
      obtain ⟨w4, hw4⟩ : ∃ w4, w3.alloc (.cells #[.int .i64 xt, .string xv, .bool xd] 83) = w4 := ⟨_, rfl⟩
      have hb4 : Below w3.heap.size w3 w4 := by rw [← hw4]; exact (Below.refl _ _).alloc (Nat.le_refl _) _
      have HI4 : Hid (IsIm w4 base B v m) := HI3.out.below hb4
      have c2 : w4.cell? ⟨B, 2, none⟩ = some (.string m.last) := HI4.out.blk.cell 2
      have f2 := HI4.out.blk.frozen 2
      have HB4 : Hid (Below w1.heap.size w1 w4) := HB3.out.trans (hb4.mono HB3.out.size)
      clear hb4 HI3
      go_wp2
      go_ret
      exact ⟨by rw [HE.out.1]; rfl, v, by rw [HE.out.2]; exact HI4.out.setLast k, ((Tn.of_below HB4.out []).mono (by simp)).setCell (.inl (by simp)) _, fun g hg => .inl hg⟩
    | some x =>
      obtain ⟨xt, xv, xd⟩ := x
      have HA : Hid (Vr.at? l m.ts = some ⟨xt, xv, xd⟩) := ha
      clear ha
      unfold Vr.atV
      simp only [Option.getD, Option.isSome]
      obtain ⟨w4, hw4⟩ : ∃ w4, w3.alloc (.cells #[.int .i64 xt, .string xv, .bool xd] 83) = w4 := ⟨_, rfl⟩
      have hb4 : Below w3.heap.size w3 w4 := by rw [← hw4]; exact (Below.refl _ _).alloc (Nat.le_refl _) _
      have k4 : Bk w4 w3.heap.size 83 #[.int .i64 xt, .string xv, .bool xd] := by rw [← hw4]; exact Bk.new _ _ _
      have HK4 : Hid (Bk w4 w3.heap.size 83 #[.int .i64 xt, .string xv, .bool xd]) := k4
      have d0 : w4.cell? ⟨w3.heap.size, 0, none⟩ = some (.int .i64 xt) := k4.cell 0
      have d1 : w4.cell? ⟨w3.heap.size, 1, none⟩ = some (.string xv) := k4.cell 1
      have d2 : w4.cell? ⟨w3.heap.size, 2, none⟩ = some (.bool xd) := k4.cell 2
      have HI4 : Hid (IsIm w4 base B v m) := HI3.out.below hb4
      have HB4 : Hid (Below w1.heap.size w1 w4) := HB3.out.trans (hb4.mono HB3.out.size)
      clear hb4 HI3 k4
      by_cases hxd : xd = true
      · have HS : Hid (m.sees l = none) := by unfold Hid Im.sees; rw [HA.out]; simp [hxd]
        have hnx : (!xd) = false := by simp [hxd]
        clear hxd
        have HE : Hid (m.addE k l = 0 ∧ m.added k l = ⟨m.ts, k, m.list⟩) := by unfold Hid Im.added Im.addE; rw [HS.out, if_pos H0.out]; simp
        have c2 : w4.cell? ⟨B, 2, none⟩ = some (.string m.last) := HI4.out.blk.cell 2
        have f2 := HI4.out.blk.frozen 2
        go_wp2
        go_ret
        exact ⟨by rw [HE.out.1]; rfl, v, by rw [HE.out.2]; exact HI4.out.setLast k, ((Tn.of_below HB4.out []).mono (by simp)).setCell (.inl (by simp)) _, fun g hg => .inl hg⟩
      · have HS : Hid (m.sees l = some ⟨xt, xv, xd⟩) := by unfold Hid Im.sees; rw [HA.out]; simp [hxd]
        have hnx : (!xd) = true := by simp [hxd]
        clear hxd
        obtain ⟨q, cc, hv, hcc⟩ := row_form HI4.out.row
        have c3 : w4.cell? ⟨B, 3, none⟩ = some v := HI4.out.blk.cell 3
        rw [hv] at c3
        obtain ⟨N, hN⟩ : ∃ N, m.list.length = N := ⟨_, rfl⟩
        have HN : Hid (m.list.length = N) := hN
        rw [hN] at c3 hcc hv
        have HV : Hid (v = .slice q N cc) := hv
        have hNl : N ≤ 65536 := by have := HH.out.2.2; rw [hN] at this; exact this
        clear hN hv
        by_cases hfull : N = 65536
        · have hfe : ((N : Int) == 65536) = true := by subst hfull; rfl
          have HE : Hid (m.addE k l = 3 ∧ m.added k l = m) := by
            have e : m.addE k l = 3 := by unfold Im.addE; rw [HS.out, if_pos H0.out, if_pos ⟨rfl, by rw [HN.out]; omega⟩]
            exact ⟨e, by unfold Im.added; rw [e, if_neg (by decide)]⟩
          clear hfull
          go_wp2
          go_ret
          exact ⟨by rw [HE.out.1]; rfl, v, by rw [HE.out.2]; exact HI4.out, (Tn.of_below HB4.out []).mono (by simp), fun g hg => .inl hg⟩
        · have hfe : ((N : Int) == 65536) = false := by simp; omega
          have HE : Hid (m.addE k l = 0 ∧ m.added k l = ⟨m.ts, k, m.list ++ [⟨k, xv, xt⟩]⟩) := by
            have e : m.addE k l = 0 := by unfold Im.addE; rw [HS.out, if_pos H0.out, if_neg (by rw [HN.out]; omega)]
            exact ⟨e, by unfold Im.added; rw [if_pos e, HS.out]⟩
          have HLN : Hid (N < 65536) := by unfold Hid; omega
          have HR : Hid (∀ W, Tn [] w4 W → W.ownsRow 0 52 3 (.slice q N cc) N (flat Rk.St.cells m.list)) := fun W hW => by
            have h1 := (HI4.out.row.tn hW (by simp)).mono (Nat.zero_le base)
            unfold Own at h1
            rw [HN.out, HV.out] at h1
            exact h1
          have HP : Hid (∀ {W w5 : World} {v5 : Value} (ho : w5.ownsRow 0 52 3 v5 (N + 1) (flat Rk.St.cells m.list ++ [.string k, .string xv, .int .i64 xt])) (hg : W.grownBy w5 (Value.slice q N cc).ownBlock) (hv5 : v5.ownBlock = (Value.slice q N cc).ownBlock ∨ v5.ownBlock = some W.heap.size), Tn [] w4 W →
              w5.cell? ⟨B, 3, none⟩ = some (.slice q N cc) ∧ w5.frozen? ⟨B, 3, none⟩ = false ∧ (w5.setCell ⟨B, 3, none⟩ v5).cell? ⟨B, 2, none⟩ = some (.string m.last) ∧ (w5.setCell ⟨B, 3, none⟩ v5).frozen? ⟨B, 2, none⟩ = false ∧ Added w1 ((w5.setCell ⟨B, 3, none⟩ v5).setCell ⟨B, 2, none⟩ (.string k)) base B v v5 (m.added k l)) := by
            intro W w5 v5 ho hg hv5 hT
            rw [← HV.out] at hg hv5 ⊢
            have ht : Tn v.ownBlock.toList w4 w5 := (hT.mono (by simp)).grown hg (fun g hg => .inl (opt_toList.2 hg))
            have hB5 : Bk w5 B 87 #[.bool true, .int .i64 m.ts, .string m.last, v] := HI4.out.blk.tn ht (fun hm => HI4.out.ne B (opt_toList.1 hm) rfl)
            have hB6 := hB5.set 3 v5
            have hne5 : ∀ g, v5.ownBlock = some g → g ≠ B := fun g hg5 => by
              rcases hv5 with e | e
              · exact HI4.out.ne g (by rw [← e]; exact hg5)
              · rw [e] at hg5
                have h1 := HI4.out.blk.lt
                have h2 := hT.size
                simp at hg5
                omega
            refine ⟨hB5.cell 3, hB5.frozen 3, hB6.cell 2, hB6.frozen 2, ?_, ?_, ?_⟩
            · rw [HE.out.2]
              refine IsIm.setLast (m := ⟨m.ts, m.last, m.list ++ [⟨k, xv, xt⟩]⟩) ⟨hB6, ?_, hne5⟩ k
              have h5 : Own Rk.St.cells 3 52 w5 base v5 (m.list ++ [⟨k, xv, xt⟩]) := by
                unfold Own
                rw [flat_append, flat_single, List.length_append, HN.out]
                refine ⟨ho.1, ?_⟩
                rcases ho.2 with hn | ⟨g, cap, cur, e1, e2, e3, e4⟩
                · exact .inl hn
                · refine .inr ⟨g, cap, cur, e1, ?_, e3, e4⟩
                  rcases hv5 with e | e
                  · rw [e1] at e
                    exact (HI4.out.row.blk e.symm).1
                  · rw [e1] at e
                    have h1 := HH.out.2.1
                    have h2 := HB4.out.size
                    have h3 := hT.size
                    simp [Value.ownBlock] at e
                    omega
              exact h5.tn ((Tn.refl [B] w5).setCell (.inl (by simp)) _) (fun g hg hm => hne5 g hg (by simpa using hm))
            · have h1 : Tn (B :: v.ownBlock.toList) w1 w5 := ((Tn.of_below HB4.out []).mono (by simp)).trans ht (fun x hx => .inl (List.mem_cons_of_mem _ hx))
              exact (h1.setCell (.inl (by simp)) _).setCell (.inl (by simp)) _
            · intro g hg5
              rcases hv5 with e | e
              · exact .inl (by rw [← e]; exact hg5)
              · rw [e] at hg5
                have h2 := HB4.out.size
                have h3 := hT.size
                simp at hg5
                exact .inr (by omega)
          have ca3 : (w4.alloc (.cells #[.string k, .string xv, .int .i64 xt] 52)).cell? ⟨B, 3, none⟩ = some (.slice q N cc) := by
            rw [Below.cell (p := ⟨B, 3, none⟩) ((Below.refl w4.heap.size w4).alloc (Nat.le_refl _) _) HI4.out.blk.lt]
            exact c3
          clear hfull
          go_wp2_with fail
          go_region_law (first
            | (refine stepX rfl _ _ 38 rfl 52 (.agg #[.string ⟨#[]⟩, .string ⟨#[]⟩, .int .i64 0]) 3 40 Try.underlying38 stinfo rfl (by decide) (.slice q N cc) N (flat Rk.St.cells m.list) (by go_simp) (HR.out _ (by repeat (first | exact Tn.refl _ _ | refine Tn.alloc ?_ _ | refine Tn.drew ?_))) ⟨_, 0, none⟩ 1 1 [.string k, .string xv, .int .i64 xt] (by rfl) rfl (news_alloc _ [.string k, .string xv, .int .i64 xt] 52 _ rfl) (by simp [Value.oneCell']) (by unfold maxLen; omega) (by omega) ?_; intro v3 w3' HO3 hg3 hv3; obtain ⟨g3, k3, hf3⟩ := row_some HO3 (by omega); subst hf3; obtain ⟨z1, z2, z3, z4, z5⟩ := HP.out HO3 hg3 hv3 (by repeat (first | exact Tn.refl _ _ | refine Tn.alloc ?_ _ | refine Tn.drew ?_)); have HZ : Hid _ := z5; clear z5 HO3 hg3 hv3))
          all_goals generalize w3'.setCell ⟨B, 3, none⟩ _ = wz at *
          all_goals go_wp2
          all_goals go_ret
          all_goals exact ⟨by rw [HE.out.1]; rfl, _, HZ.out⟩
  · have hne : (m.mayE k l != 0) = true := by simpa using h0
    have HE : Hid (m.addE k l = m.mayE k l ∧ m.added k l = m) := by
      have e : m.addE k l = m.mayE k l := by unfold Im.addE; rw [if_neg h0]
      exact ⟨e, by unfold Im.added; rw [e, if_neg h0]⟩
    clear h0 hx2
    go_wp2
    go_ret
    exact ⟨by rw [HE.out.1]; rfl, v, by rw [HE.out.2]; exact HI2.out, (Tn.of_below HB2.out []).mono (by simp), fun g hg => .inl hg⟩
end Go.Proofs.Ytcoibnlecdemcaa
