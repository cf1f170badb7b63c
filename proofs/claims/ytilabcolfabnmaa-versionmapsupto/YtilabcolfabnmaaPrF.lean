/- Fold: the map of the commits up to a timestamp. -/
import Derived.Test.YtilabcolfabnmaaSbU
import Derived.Test.YtilabcolfabnmaaPrP
namespace Go.Proofs.Ytilabcolfabnmaa
open Go.RowKit Go.Sort Go.Maps
set_option linter.unusedVariables false
set_option maxRecDepth 100000

/-- The writes of commits, one behind the other. -/
def Fm.commits (W : Cm → List Wt) (F : Fm) (Z : List Cm) : Fm := Z.foldl (fun F x => F.writes (W x)) F
theorem Fm.commits_take {W : Cm → List Wt} {F : Fm} {Z : List Cm} {k : Nat} {x : Cm} (h : Z[k]? = some x) : F.commits W (Z.take (k + 1)) = (F.commits W (Z.take k)).writes (W x) := by
  rw [List.take_add_one, h]
  simp [Fm.commits]
theorem Fm.Ok.commits {W : Cm → List Wt} {F : Fm} (h : F.Ok) (Z : List Cm) : (F.commits W Z).Ok := by
  induction Z generalizing F with
  | nil => exact h
  | cons x r ih => exact ih (h.writes (W x))

/-- What a commit's writes are. -/
structure CwOk (W : Cm → List Wt) (w : World) (x : Cm) : Prop where
  ws : Wts w x.p (W x)
  len : (W x).length = x.n
  key : ∀ (i : Nat) y, (W x)[i]? = some y → y.key.size ≤ maxLen
  nil : x.p = none → x.n = 0 ∧ x.c = 0

theorem CwOk.below {W : Cm → List Wt} {w w' : World} {x : Cm} (h : CwOk W w x) (hb : Below w.heap.size w w') : CwOk W w' x := ⟨Els.below h.ws hb (Nat.le_refl _), h.len, h.key, h.nil⟩

theorem keepC_mem {ts : Int} {l : List Cm} {x : Cm} (h : x ∈ keepC ts l) : x ∈ l := (List.mem_filter.1 h).1

set_option maxHeartbeats 2000000 in
theorem foldc_any (p : Option Addr) (n c : Nat) (l : List Cm) (W : Cm → List Wt) (K : Nat) (ts : Int) (w : World) (hn : l.length = n) (hx : Els Cm.cells 2 w p l) (hp : p = none → n = 0 ∧ c = 0) (hW : ∀ x ∈ l, CwOk W w x) (hK : ∀ x ∈ l, x.n ≤ K) (hl : n ≤ 4398046510976) (hnk : n * K ≤ 4398046510976) :
    Calls Try.prog 14 #[.slice p n c, .int .i64 ts] w fun e w' => ∃ v k Z, e = .returned v ∧ Sam Cm.ts (keepC ts l) Z ∧ Asc Cm.ts Z ∧ (Fm.commits W (fun _ => none) Z).Is k ∧ Ans w w' v k := by
  obtain ⟨w0, hw0⟩ : ∃ w0, w.alloc (.map #[] 0) = w0 := ⟨_, rfl⟩
  have hb0 : Below w.heap.size w w0 := by rw [← hw0]; exact (Below.refl _ _).alloc (Nat.le_refl _) _
  have hm0 : Sm w0 w.heap.size 0 (fun _ => none) := by rw [← hw0]; exact Sm.new w
  have hs0 : w0.heap.size = w.heap.size + 1 := by rw [← hw0]; show _ = _; simp
  have hmk : (Instr.makeMap 67 none).run Try.prog w = .ok (.map (some w.heap.size)) w0 := by rw [← hw0]; kernel_rfl
  have hup := upTo_any p n c l ts w0 hn (hx.below hb0 (Nat.le_refl _)) hp hl
  have HB0 : Hid (Below w.heap.size w w0) := hb0
  have HM0 : Hid (Sm w0 w.heap.size 0 (fun _ => none)) := hm0
  have HS0 : Hid (w0.heap.size = w.heap.size + 1) := hs0
  have HW : Hid (∀ x ∈ l, CwOk W w x) := hW
  have HK : Hid (∀ x ∈ l, x.n ≤ K) := hK
  have HNK : Hid (n * K ≤ 4398046510976) := hnk
  clear hb0 hm0 hs0 hn hx hp hW hK hnk hw0
  go_enter Try.func14, Try.ntmps14
  go_wp2_with fail
  refine hup.mono ?_
  rintro e w1 ⟨q, m, c', Z, rfl, hzl, hmn, hze, hsam, hasc, hqb, hb1⟩
  have HZ : Hid (Sam Cm.ts (keepC ts l) Z ∧ Asc Cm.ts Z ∧ Z.length = m) := ⟨hsam, hasc, hzl⟩
  have HB1 : Hid (Below w.heap.size w w1) := HB0.out.trans (hb1.mono HB0.out.size)
  have HM1 : Hid (Sm w1 w.heap.size (0 * K) (Fm.commits W (fun _ => none) (Z.take 0))) := by
    have := HM0.out.below hb1
    unfold Hid
    simpa [Fm.commits] using this
  have HQ : Hid (Els Cm.cells 2 w1 q Z ∧ ∀ b o, q = some ⟨b, o, none⟩ → b ∉ [w.heap.size]) := ⟨hze, fun b o h => by have := hqb b o h; have := HS0.out; simp; omega⟩
  have HZM : Hid (∀ x ∈ Z, x ∈ l) := fun x hx => keepC_mem (hsam.symm.mem hx)
  clear hzl hze hsam hasc hqb hb1 hup hmk
  go_wp2_with fail
  go_loopw [13] (fun i wr => ∃ j : Nat, j ≤ m ∧ i = .int .i64 j ∧ Hid (Tn [w.heap.size] w1 wr) ∧ Hid (Sm wr w.heap.size (j * K) (Fm.commits W (fun _ => none) (Z.take j)))) (fun i _ => m - (intOf i).toNat)
  case atStart => exact ⟨0, Nat.zero_le _, rfl, Tn.refl _ _, HM1⟩
  case round =>
    obtain ⟨j, hj, rfl, HT, HS⟩ := hrel
    by_cases hlt : j < m
    · have hli : (j : Int) < (m : Int) := by omega
      obtain ⟨b, o, x, rfl, hg, hcs⟩ := Els.at (HQ.out.1.tn HT.out HQ.out.2) (j := j) (by have := HZ.out.2.2; omega)
      have c0 := hcs 0 _ rfl
      have c1 := hcs 1 _ rfl
      rw [Nat.add_zero] at c0
      have HCT : Hid (Fm.commits W (fun _ => none) (Z.take (j + 1)) = (Fm.commits W (fun _ => none) (Z.take j)).writes (W x)) := Fm.commits_take hg
      have hxl := HZM.out x (List.mem_of_getElem? hg)
      have hok := HW.out x hxl
      have hxk := HK.out x hxl
      have hjk : j * K + K ≤ n * K := by
        have := Nat.mul_le_mul_right K (show j + 1 ≤ n by omega)
        rwa [Nat.add_mul, Nat.one_mul] at this
      obtain ⟨x1, x2, x3, x4⟩ := x
      obtain ⟨w2, hw2⟩ : ∃ w2, wr.alloc (.cells #[.int .i64 x1, .slice x2 x3 x4] 42) = w2 := ⟨_, rfl⟩
      have hb2 : Below wr.heap.size wr w2 := by rw [← hw2]; exact (Below.refl _ _).alloc (Nat.le_refl _) _
      have k2 : Bk w2 wr.heap.size 42 #[.int .i64 x1, .slice x2 x3 x4] := by rw [← hw2]; exact Bk.new _ _ _
      have d0 : w2.cell? ⟨wr.heap.size, 0, none⟩ = some (.int .i64 x1) := k2.cell 0
      have d1 : w2.cell? ⟨wr.heap.size, 1, none⟩ = some (.slice x2 x3 x4) := k2.cell 1
      have HT2 : Hid (Tn [w.heap.size] w1 w2) := HT.out.trans (Tn.of_below hb2 []) (by simp)
      have hbw2 : Tn [w.heap.size] w w2 := (Tn.of_below HB1.out [w.heap.size]).trans HT2.out (fun x hx => .inl hx)
      have hne : ∀ b o, x2 = some ⟨b, o, none⟩ → 0 < x3 → b ≠ w.heap.size := fun b o h h0 => by
        have h1 : Wts w (some ⟨b, o, none⟩) (W ⟨x1, x2, x3, x4⟩) := by rw [← h]; exact hok.ws
        have := Els.lt wtknd h1 (by rw [hok.len]; exact h0)
        omega
      have hwts : Wts w2 x2 (W ⟨x1, x2, x3, x4⟩) := by
        intro h0
        have h1 := hok.len
        simp only at h1
        refine Els.tn hok.ws hbw2 (fun b o h hm => ?_) h0
        simp at hm
        exact hne b o h (by omega) hm
      have hwr := write_any w.heap.size (j * K) _ x2 x3 x4 (W ⟨x1, x2, x3, x4⟩) w2 (HS.out.below hb2) hok.len hwts (fun h0 b o h => hne b o h h0) hok.key (by have := HNK.out; simp only at hxk; omega)
      have HXK : Hid (j * K + x3 ≤ (j + 1) * K) := by
        unfold Hid
        rw [Nat.add_mul, Nat.one_mul]
        simp only at hxk
        omega
      clear hg hcs hok hxl hxk hjk hb2 k2 hwts hne hbw2
      go_wp2_with fail
      refine hwr.mono ?_
      rintro e w3 ⟨rfl, hs3, ht3⟩
      have HS3 : Hid (Sm w3 w.heap.size ((j + 1) * K) (Fm.commits W (fun _ => none) (Z.take (j + 1)))) := by
        unfold Hid
        rw [HCT.out]
        obtain ⟨D, q1, q2, q3⟩ := hs3.ex
        exact ⟨D, q1.mono HXK.out, q2, q3⟩
      have HT3 : Hid (Tn [w.heap.size] w1 w3) := HT2.out.trans ht3 (fun x hx => .inl hx)
      clear hwr hs3 ht3 d0 d1 hw2
      go_wp2
      go_roundw
      case rel => exact ⟨j + 1, by omega, by go_num, HT3, HS3⟩
      case measure => simp [intOf]; omega
    · obtain rfl : j = m := by omega
      have hli : ¬ ((j : Int) < (j : Int)) := by omega
      have hS : Sm wr w.heap.size (n * K) (Fm.commits W (fun _ => none) Z) := by
        have h1 := HS.out
        rw [List.take_of_length_le (by have := HZ.out.2.2; omega)] at h1
        obtain ⟨D, q1, q2, q3⟩ := h1.ex
        exact ⟨D, q1.mono (Nat.mul_le_mul_right _ hmn), q2, q3⟩
      have hpr := pairs_any w.heap.size (n * K) _ wr hS (Fm.ok_none.commits Z) HNK.out
      have HBR : Hid (Below w.heap.size w wr) := HB1.out.trans (HT.out.below HB1.out.size (by simp))
      clear hS
      go_wp2_with fail
      refine hpr.mono ?_
      rintro e w3 ⟨v, k, rfl, h1, h2, h3⟩
      have H1 : Hid ((Fm.commits W (fun _ => none) Z).Is k) := h1
      have H3 : Hid (Ans w w3 v k) := by
        obtain ⟨p, c, rfl, h4, h5⟩ := h3.ex
        refine ⟨⟨p, c, rfl, fun hl => ?_, h5⟩, HBR.out.trans (h3.below.mono HBR.out.size)⟩
        obtain ⟨g, e1, e2, e3⟩ := h4 hl
        exact ⟨g, e1, Nat.le_trans HBR.out.size e2, e3⟩
      clear h1 h2 h3 hpr
      go_wp2
      go_ret
      exact ⟨_, _, Z, rfl, HZ.out.1, HZ.out.2.1, H1.out, H3.out⟩
end Go.Proofs.Ytilabcolfabnmaa
