/- An oracle: what stands above Published is told. -/
import Derived.Test.YtdgphlghmjnjfaaOrI
import Derived.Test.YtdgphlghmjnjfaaOrN
namespace Go.Proofs.Ytdgphlghmjnjfaa
open Go.RowKit Go.Maps Go.Shelf
attribute [local go_sem] Oper.semAt_some
set_option linter.unusedVariables false
set_option maxRecDepth 100000

/-- What stands above Published, with whether it is published. -/
def Or.abv (o : Or) : List (Nat × Bool) := (List.range (o.last - o.pub)).map fun k => (o.pub + 1 + k, o.isP (o.pub + 1 + k))

theorem Or.abv_len (o : Or) : o.abv.length = o.last - o.pub := by simp [Or.abv]
theorem Or.abv_at (o : Or) (k : Nat) (hk : k < o.last - o.pub) : o.abv[k]? = some (o.pub + 1 + k, o.isP (o.pub + 1 + k)) := by simp [Or.abv, hk]

theorem Mp.kp {α : Type} {R : Value → Option (DataW α × List MemPlace)} {w w' : World} {M n : Nat} {f : Nat → Option α} {S : List Nat} (h : Mp R w M n f) (k : KpP S w w') (hM : M ∈ S) : Mp R w' M n f := by
  obtain ⟨es, clock, hb, F, hs, hD⟩ := h
  exact ⟨es, clock, (k M hM).trans hb, F, hs, hD⟩
theorem IsOr.kp {w w' : World} {B M : Nat} {o : Or} {S : List Nat} (h : IsOr w B M o) (k : KpP S w w') (hB : B ∈ S) (hM : M ∈ S) : IsOr w' B M o := ⟨k.bk h.blk hB, h.mp.kp k hM⟩

theorem below_grown {A A' : World} (h : Below A.heap.size A A') : A.grownBy A' none := ⟨h.os, h.tape, h.output, h.size, fun k hk _ => h.block k hk⟩

abbrev encA (x : Nat × Bool) : Array Value := #[.int .i64 (x.1 : Int), .bool x.2]

set_option maxHeartbeats 4000000 in
theorem above1_in (l Bw B M : Nat) (S : List Nat) (o : Or) (hok : o.Ok) (hSw : Bw ∈ S) (hSB : B ∈ S) (hSM : M ∈ S) (J Jx : List (Nat × Bool) → World → Prop) (Jp : List PanicEntry → List (Nat × Bool) → World → Prop)
    (hJ : ∀ pre A A', J pre A → A.grownBy A' none → J pre A')
    (hY : ∀ pre x W, J pre W → pre ++ [x] <+: o.abv → YieldAt Fence.wide (8 - 1) Try.prog l (encA x) W fun r W' =>
      (r = .returned (.bool true) ∧ J (pre ++ [x]) W' ∧ KpP S W W') ∨ (r = .returned (.bool false) ∧ Jx (pre ++ [x]) W') ∨ (∃ chain, r = .panicked chain ∧ Jp chain (pre ++ [x]) W'))
    (W : World) (hS : ∀ x ∈ S, x < W.heap.size) (hbx : Bk W Bw 23 #[.pointer (some ⟨B, 0, none⟩)]) (hE : IsOr W B M o) (h0 : J [] W) :
    CallsIn Fence.wide 8 Try.prog 49 #[.func (.yield l) #[] #[], .pointer (some ⟨Bw, 0, none⟩)] W fun r W' => ((∃ v, r = .returned v) ∧
      ((∃ ys, ys = o.abv ∧ J ys W') ∨ (∃ pre, pre <+: o.abv ∧ Jx pre W'))) ∨ ∃ chain pre, r = .panicked chain ∧ pre <+: o.abv ∧ Jp chain pre W' := by
  refine callsIn_of_wp Try.func49 rfl trivial ?_ rfl
  simp only [Try.ntmps49, List.size_toArray, List.length_cons, List.length_nil, Nat.reduceAdd, Nat.reduceSub, Array.replicate_succ, Array.replicate_zero, List.push_toArray, List.append_toArray, List.nil_append, List.cons_append]
  have cw : W.cell? ⟨Bw, 0, none⟩ = some (.pointer (some ⟨B, 0, none⟩)) := hbx.cell 0
  have c1 := hE.c1
  have c2 := hE.c2
  have HE : Hid (∀ W', KpP S W W' → IsOr W' B M o ∧ Bk W' Bw 23 #[.pointer (some ⟨B, 0, none⟩)]) := fun W' h => ⟨hE.kp h hSB hSM, h.bk hbx hSw⟩
  have HY : Hid _ := hY
  have HJ : Hid (∀ pre A A', J pre A → A.grownBy A' none → J pre A') := hJ
  have HS : Hid (∀ x ∈ S, x < W.heap.size) := hS
  have H0 : Hid (J [] W) := h0
  have HA : Hid (∀ k, k < o.last - o.pub → o.abv[k]? = some (o.pub + 1 + k, o.isP (o.pub + 1 + k))) := o.abv_at
  have HL : Hid (o.abv.length = o.last - o.pub) := o.abv_len
  have hmx := hok.max
  have hle := hok.le
  obtain ⟨p, hp⟩ : ∃ p, o.pub = p := ⟨_, rfl⟩
  obtain ⟨z, hz⟩ : ∃ z, o.last = z := ⟨_, rfl⟩
  have HP : Hid (o.pub = p ∧ o.last = z) := ⟨hp, hz⟩
  rw [hp] at c1 hle
  rw [hz] at hmx hle
  obtain ⟨p1, hp1⟩ : ∃ p1, p + 1 = p1 := ⟨_, rfl⟩
  have HP1 : Hid (p + 1 = p1) := hp1
  clear hY hJ hS hbx hE h0 hok hp hz hp1
  gi_wp2_with fail
  refine ⟨trivial, ?_⟩
  refine (callsIn_wide.2 (published_any c1 c2)).mono ?_
  rintro r w1 ⟨rfl, rfl⟩
  gi_wp2_with fail
  gi_loopw [3] (fun i wr => ∃ k j : Nat, k ≤ z - p ∧ p1 + k = j ∧ i = .int .i64 (j : Int) ∧ J (o.abv.take k) wr ∧ KpP S w1 wr) (fun i _ => z + 1 - (intOf i).toNat)
  case atStart => exact ⟨0, p1, Nat.zero_le _, rfl, by rw [← HP1.out]; rfl, by simpa using H0.out, KpP.refl _ _⟩
  case round =>
    obtain ⟨k, j, hk, hkj, rfl, hJs, hK⟩ := hrel
    have hp1 := HP1.out
    obtain ⟨hR, hbR⟩ := HE.out wr hK
    have d0 := hR.c0
    have d2 := hR.c2
    have dw : wr.cell? ⟨Bw, 0, none⟩ = some (.pointer (some ⟨B, 0, none⟩)) := hbR.cell 0
    rw [HP.out.2] at d0
    by_cases hlt : k < z - p
    · have hli : (j : Int) ≤ (z : Int) := by omega
      obtain ⟨b, hb⟩ : ∃ b, o.isP j = b := ⟨_, rfl⟩
      have hx : o.abv[k]? = some (j, b) := by
        rw [HA.out k (by rw [HP.out.1, HP.out.2]; exact hlt), HP.out.1, show p + 1 + k = j by omega, hb]
      have HT : Hid (o.abv.take (k + 1) = o.abv.take k ++ [(j, b)]) := take_snoc hx
      have HB : Hid (o.isPub (j : Int) = b) := by rw [Or.isPub_nat j (by simp only [NN]; omega)]; exact hb
      have HWF : Hid ((Lit.int .i64 (j : Int)).wf = true) := WalkArith.wf_i64 (by omega)
      have HR : Hid (IsOr wr B M o) := hR
      have HJ1 : Hid (J (o.abv.take k) wr ∧ KpP S w1 wr) := ⟨hJs, hK⟩
      have HKJ : Hid (k < z - p ∧ p1 + k = j ∧ p + 1 = p1) := ⟨hlt, hkj, hp1⟩
      clear hx hb hR hbR hJs hK hkj hp1 hlt hk
      gi_wp2_with fail
      refine ⟨trivial, ?_⟩
      refine (callsIn_wide.2 (last_any d0 d2)).mono ?_
      rintro r w2 ⟨rfl, rfl⟩
      gi_wp2_with fail
      refine ⟨trivial, ?_⟩
      refine (callsIn_wide.2 (isPub_any HR.out _ HWF.out)).mono ?_
      rintro r W3 ⟨rfl, hb3⟩
      rw [HB.out]
      have hK3 : KpP S w1 W3 := HJ1.out.2.t (KpP.of_below hb3 (HJ1.out.2.lt HS.out))
      obtain ⟨fn, tmps, assign, body, hy, hR⟩ := HY.out (o.abv.take k) (j, b) W3 (HJ.out _ _ _ HJ1.out.1 (below_grown hb3)) (by rw [← HT.out]; exact List.take_prefix _ _)
      simp only [encA] at hy
      have HK3 : Hid (KpP S w1 W3) := hK3
      clear hb3 hK3
      gi_wp2
      refine hR.mono ?_
      rintro e W4 (⟨rfl, hJ4, hk4⟩ | ⟨rfl, hJx4⟩ | ⟨chain, rfl, hJp4⟩)
      · gi_wp2
        go_roundw
        case rel =>
          have := HKJ.out
          exact ⟨k + 1, j + 1, by omega, by omega, by go_num, by rw [HT.out]; exact hJ4, HK3.out.t hk4⟩
        case measure => simp [intOf]; omega
      · gi_wp2
        refine bodyPost_ret (results_none rfl _ _ _) rfl ?_
        exact .inl ⟨⟨_, rfl⟩, .inr ⟨_, by rw [← HT.out]; exact List.take_prefix _ _, hJx4⟩⟩
      · refine ⟨rfl, ?_⟩
        exact .inr ⟨chain, _, rfl, by rw [← HT.out]; exact List.take_prefix _ _, hJp4⟩
    · have hli : ¬ (j : Int) ≤ (z : Int) := by omega
      have HEnd : Hid (J o.abv wr) := by
        rw [List.take_of_length_le (by rw [HL.out, HP.out.1, HP.out.2]; omega)] at hJs
        exact hJs
      clear hR hbR hJs hK hkj hp1 hlt hk
      gi_wp2_with fail
      refine ⟨trivial, ?_⟩
      refine (callsIn_wide.2 (last_any d0 d2)).mono ?_
      rintro r w2 ⟨rfl, rfl⟩
      gi_wp2
      go_end0
      exact .inl ⟨⟨_, rfl⟩, .inl ⟨_, rfl, HEnd.out⟩⟩

theorem above1_stops {w : World} {Bw B M : Nat} {S : List Nat} {o : Or} (hok : o.Ok) (hSw : Bw ∈ S) (hSB : B ∈ S) (hSM : M ∈ S) (hS : ∀ x ∈ S, x < w.heap.size) (hbx : Bk w Bw 23 #[.pointer (some ⟨B, 0, none⟩)]) (hE : IsOr w B M o) :
    SeqStopsQ 8 Try.prog 49 #[.pointer (some ⟨Bw, 0, none⟩)] encA (KpP S) (fun ys => ys = o.abv) (fun pre => pre <+: o.abv) w := fun l J Jx Jp W hW hJ hY h0 =>
  above1_in l Bw B M S o hok hSw hSB hSM J Jx Jp hJ hY W (fun x hx => Nat.lt_of_lt_of_le (hS x hx) hW.size) (hbx.below hW hbx.lt) (hE.below hW) h0

set_option maxHeartbeats 4000000 in
theorem above1_no {w : World} {Bw : Nat} {v : Value} (S : List Nat) (hbx : Bk w Bw 23 #[v]) (hN : Nm w v) :
    SeqStopsQ 8 Try.prog 49 #[.pointer (some ⟨Bw, 0, none⟩)] encA (KpP S) (fun ys => ys = []) (fun pre => pre <+: []) w := fun l J Jx Jp W hW hJ hY h0 => by
  refine callsIn_of_wp Try.func49 rfl trivial ?_ rfl
  simp only [Try.ntmps49, List.size_toArray, List.length_cons, List.length_nil, Nat.reduceAdd, Nat.reduceSub, Array.replicate_succ, Array.replicate_zero, List.push_toArray, List.append_toArray, List.nil_append, List.cons_append]
  have cw : W.cell? ⟨Bw, 0, none⟩ = some v := (hbx.below hW hbx.lt).cell 0
  have HN : Hid (Nm W v) := hN.below hW
  have H0 : Hid (J [] W) := h0
  obtain ⟨a, ha⟩ : ∃ a, v = .pointer a := by
    rcases hN with h | ⟨S, h, _⟩
    · exact ⟨_, h⟩
    · exact ⟨_, h⟩
  subst ha
  clear hbx hN hW hJ hY h0
  gi_wp2_with fail
  refine ⟨trivial, ?_⟩
  refine (callsIn_wide.2 (published_no HN.out)).mono ?_
  rintro r w1 ⟨rfl, rfl⟩
  gi_wp2_with fail
  gi_loopw [3] (fun i wr => i = .int .i64 1 ∧ wr = w1) (fun i _ => 0)
  case atStart => exact ⟨by simp, rfl⟩
  case round =>
    obtain ⟨rfl, rfl⟩ := hrel
    gi_wp2_with fail
    refine ⟨trivial, ?_⟩
    refine (callsIn_wide.2 (last_no HN.out)).mono ?_
    rintro r w2 ⟨rfl, rfl⟩
    gi_wp2
    go_end0
    exact .inl ⟨⟨_, rfl⟩, .inl ⟨_, rfl, H0.out⟩⟩
end Go.Proofs.Ytdgphlghmjnjfaa
