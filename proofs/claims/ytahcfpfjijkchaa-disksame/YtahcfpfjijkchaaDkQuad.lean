/- Two disks and their references. -/
import Derived.Test.YtahcfpfjijkchaaDkStep
import Derived.Test.YtahcfpfjijkchaaDkNoneS
namespace Go.Proofs.Ytahcfpfjijkchaa
open Go.ChangeShapes Go.WideShapes Go.ChangeAt Go.RowKit Go.Shelf
set_option linter.unusedVariables false

/-- Two disks and their references, apart from each other, from the end of a world on. -/
def Qw (w wr : World) (B1 R1 B2 R2 : Nat) (d1 d2 : Dk) : Prop := (∃ bs1 rs1 bs2 rs2, Pr wr B1 R1 bs1 rs1 d1 d1 ∧ Pr wr B2 R2 bs2 rs2 d2 d2 ∧ (∀ b ∈ bs1 ++ rs1, b ∉ bs2 ++ rs2) ∧ (∀ b ∈ bs1 ++ rs1, w.heap.size ≤ b) ∧ ∀ b ∈ bs2 ++ rs2, w.heap.size ≤ b) ∧ Below w.heap.size w wr

section
variable {w wr w' : World} {B1 R1 B2 R2 : Nat} {d1 d2 : Dk}

theorem Qw.swap (h : Qw w wr B1 R1 B2 R2 d1 d2) : Qw w wr B2 R2 B1 R1 d2 d1 := by
  obtain ⟨⟨bs1, rs1, bs2, rs2, h1, h2, h3, h4, h5⟩, hb⟩ := h
  exact ⟨⟨bs2, rs2, bs1, rs1, h2, h1, fun b hb hb' => h3 b hb' hb, h5, h4⟩, hb⟩

theorem Qw.below (h : Qw w wr B1 R1 B2 R2 d1 d2) (k : Below wr.heap.size wr w') : Qw w w' B1 R1 B2 R2 d1 d2 := by
  obtain ⟨⟨bs1, rs1, bs2, rs2, h1, h2, h3⟩, hb⟩ := h
  exact ⟨⟨bs1, rs1, bs2, rs2, h1.below k, h2.below k, h3⟩, hb.trans (k.mono hb.size)⟩

theorem Qw.step (h : Qw w wr B1 R1 B2 R2 d1 d2) {g : GOp} (hg : OpIn w g) (h6 : g.dd ≠ 6) :
    Calls Try.prog 12 #[.pointer (some ⟨B1, 0, none⟩), .pointer (some ⟨R1, 0, none⟩), .agg #[.int .i64 g.dd, .int .i64 g.pl, .int .u8 g.a, .int .u8 g.b, .int .i64 g.n, .slice g.kp g.ks.length g.kc, .slice g.op g.os.length g.oc]] wr fun e w' => e = .returned (.tuple #[.pointer (some ⟨B1, 0, none⟩), .bool true]) ∧ Qw w w' B1 R1 B2 R2 (d1.step g) d2 := by
  obtain ⟨⟨bs1, rs1, bs2, rs2, h1, h2, h3, h4, h5⟩, hb⟩ := h
  have hs := hb.size
  have hin : StepIn wr B1 R1 bs1 rs1 d1 g := ⟨h1, hg.up hb, fun ad ha hl hm => by have := h4 _ hm; have := bls_lt hg.ks.bls ad ha hl; omega, fun ad ha hl hm => by have := h4 _ hm; have := bys_lt hg.os.bys ad ha hl; omega⟩
  refine (step_any hin h6).mono fun e w' ⟨he, hp⟩ => ⟨he, ?_⟩
  obtain ⟨bs', rs', k1, t, a, b⟩ := hp
  have hab : ∀ x ∈ bs' ++ rs', x ∈ bs1 ++ rs1 ∨ wr.heap.size ≤ x := fun x hx => (List.mem_append.1 hx).elim (a x) (b x)
  refine ⟨⟨bs', rs', bs2, rs2, k1, h2.tn t (fun x hx hx' => h3 x hx' hx), fun x hx hx' => ?_, fun x hx => ?_, h5⟩, hb.trans (t.below hs h4)⟩
  · rcases hab x hx with h | h
    · exact h3 x h hx'
    · have := h2.lt x hx'
      omega
  · rcases hab x hx with h | h
    · exact h4 x h
    · omega
end

theorem qw_new {w w1 w2 w3 w4 : World} {B1 B2 R1 R2 : Nat} {bs1 bs2 rs1 rs2 : List Nat} {d : Dk} (h1 : Dsk w1 B1 bs1 d) (g1 : ∀ b ∈ bs1, w.heap.size ≤ b) (k1 : Below w.heap.size w w1) (h2 : Dsk w2 B2 bs2 d) (g2 : ∀ b ∈ bs2, w1.heap.size ≤ b) (k2 : Below w1.heap.size w1 w2)
    (h3 : Rf w3 R1 rs1 d) (g3 : ∀ b ∈ rs1, w2.heap.size ≤ b) (k3 : Below w2.heap.size w2 w3) (h4 : Rf w4 R2 rs2 d) (g4 : ∀ b ∈ rs2, w3.heap.size ≤ b) (k4 : Below w3.heap.size w3 w4) : Qw w w4 B1 R1 B2 R2 d d := by
  have s1 := k1.size
  have s2 := k2.size
  have s3 := k3.size
  have l1 := h1.lt
  have l2 := h2.lt
  have l3 := h3.lt
  refine ⟨⟨bs1, rs1, bs2, rs2, ⟨((h1.below k2).below k3).below k4, h3.below k4, fun b hb hb' => by have := l1 b hb; have := g3 b hb'; omega⟩, ⟨(h2.below k3).below k4, h4, fun b hb hb' => by have := l2 b hb; have := g4 b hb'; omega⟩, fun b hb hb' => ?_, fun b hb => ?_, fun b hb => ?_⟩, ((k1.trans (k2.mono s1)).trans (k3.mono (by omega))).trans (k4.mono (by omega))⟩
  · rcases List.mem_append.1 hb with hb | hb <;> rcases List.mem_append.1 hb' with hb' | hb'
    · have := l1 b hb; have := g2 b hb'; omega
    · have := l1 b hb; have := g4 b hb'; omega
    · have := l2 b hb'; have := g3 b hb; omega
    · have := l3 b hb; have := g4 b hb'; omega
  · rcases List.mem_append.1 hb with hb | hb
    · exact g1 b hb
    · have := g3 b hb; omega
  · rcases List.mem_append.1 hb with hb | hb
    · have := g2 b hb; omega
    · have := g4 b hb; omega

set_option maxRecDepth 100000 in
set_option maxHeartbeats 2000000 in
theorem same_nil {w : World} {B : Nat} {bs : List Nat} {d : Dk} (h : Dsk w B bs d) : Calls Try.prog 20 #[.pointer (some ⟨B, 0, none⟩), .pointer none] w fun e w' => e = .returned (.bool false) ∧ Below w.heap.size w w' := by
  have H : Hid (∀ n, Dsk (w.drewN n) B bs d) := fun n => h.below (below_drewN (Below.refl _ _) n)
  clear h
  go_enter Try.func20, Try.ntmps20
  go_wp2_with fail
  go_quiet (first | (go_at_call_of 35 (Value.pointer (some ⟨B, 0, none⟩)); refine Calls.quiet_of_same (made_any (H.out _))) | (go_at_call_of 35 (Value.pointer none); refine Calls.quiet_of_same (made_nil _)))
  have hb : Below w.heap.size w (w.drewN nq) := below_drewN (Below.refl _ _) nq
  have HB : Hid _ := hb
  generalize w.drewN nq = w1 at *
  go_wp2
  go_ret
  exact ⟨rfl, HB.out⟩

theorem sameD_self (d : Dk) : sameD d d = true := by
  unfold sameD
  simp

theorem sameD_comm (a b : Dk) : sameD a b = sameD b a := by
  unfold sameD
  by_cases h : a.n = b.n
  · rw [h]
    congr 1
    refine List.all_congr rfl fun i => ?_
    exact decide_eq_decide.2 eq_comm
  · rw [decide_eq_false h, decide_eq_false (fun e => h e.symm)]
    rfl

set_option maxRecDepth 100000 in
set_option maxHeartbeats 8000000 in
theorem walk_diskSame (i : Int) (q : Option Addr) (m qc : Nat) (os : List GOp) (q2 : Option Addr) (m2 qc2 : Nat) (os2 : List GOp) (w : World) (hi : (Lit.int .i64 i).wf = true) (hos : InOps w q m qc os) (hos2 : InOps w q2 m2 qc2 os2) :
    Calls Try.prog 4 #[.int .i64 i, .slice q m qc, .slice q2 m2 qc2] w fun e w' => e = .returned (.bool true) ∧ Below w.heap.size w w' := by
  have HO : Hid (InOps w q m qc os) := hos
  have HO2 : Hid (InOps w q2 m2 qc2 os2) := hos2
  have hle2 := hos.le
  have hroom2 := hos.room
  have hle3 := hos2.le
  have hroom3 := hos2.room
  clear hos hos2 hi
  by_cases h1 : i < 1
  · go_enter Try.func4, Try.ntmps4
    go_wp2_with fail
    refine (begun_any w).mono ?_
    rintro e w2 ⟨rfl, hb2⟩
    go_wp2
    go_ret
    exact ⟨rfl, hb2⟩
  · by_cases h2 : 64 < i
    · go_enter Try.func4, Try.ntmps4
      go_wp2_with fail
      refine (begun_any w).mono ?_
      rintro e w2 ⟨rfl, hb2⟩
      go_wp2
      go_ret
      exact ⟨rfl, hb2⟩
    · obtain ⟨n, rfl⟩ : ∃ n : Nat, i = (n : Int) := ⟨i.toNat, by omega⟩
      have hn1 : 1 ≤ n := by omega
      have hn2 : n ≤ 16384 := by omega
      go_enter Try.func4, Try.ntmps4
      go_wp2_with fail
      refine (begun_any w).mono ?_
      rintro e w0 ⟨rfl, hb0⟩
      have HB0 : Hid (Below w.heap.size w w0) := hb0
      clear hb0
      go_wp2_with fail
      refine (new_any n w0 hn1 hn2).mono ?_
      rintro e w1 ⟨B1, bs1, rfl, hd1, hg1, hb1⟩
      have HD1 : Hid (Dsk w1 B1 bs1 (Dk.fresh n)) := hd1
      have HG1 : Hid (∀ b ∈ bs1, w0.heap.size ≤ b) := hg1
      have HB1 : Hid (Below w0.heap.size w0 w1) := hb1
      clear hd1 hg1 hb1
      go_wp2_with fail
      refine (new_any n w1 hn1 hn2).mono ?_
      rintro e w2 ⟨B2, bs2, rfl, hd2, hg2, hb2⟩
      have HD2 : Hid (Dsk w2 B2 bs2 (Dk.fresh n)) := hd2
      have HG2 : Hid (∀ b ∈ bs2, w1.heap.size ≤ b) := hg2
      have HB2 : Hid (Below w1.heap.size w1 w2) := hb2
      clear hd2 hg2 hb2
      go_wp2_with fail
      refine (rnew n w2 hn1 hn2).mono ?_
      rintro e w3 ⟨R1, rs1, rfl, hd3, hg3, hb3⟩
      have HD3 : Hid (Rf w3 R1 rs1 (Dk.fresh n)) := hd3
      have HG3 : Hid (∀ b ∈ rs1, w2.heap.size ≤ b) := hg3
      have HB3 : Hid (Below w2.heap.size w2 w3) := hb3
      clear hd3 hg3 hb3
      go_wp2_with fail
      refine (rnew n w3 hn1 hn2).mono ?_
      rintro e w4 ⟨R2, rs2, rfl, hd4, hg4, hb4⟩
      have HF0 : Hid (Qw w w4 B1 R1 B2 R2 (Dk.fresh n) (Dk.fresh n)) := by
        have hs := HB0.out.size
        exact qw_new HD1.out (fun b hb => Nat.le_trans hs (HG1.out b hb)) (HB0.out.trans (HB1.out.mono hs)) HD2.out HG2.out HB2.out HD3.out HG3.out HB3.out hd4 hg4 hb4
      clear hd4 hg4 hb4 HD1 HG1 HB1 HD2 HG2 HB2 HD3 HG3 HB3 HB0
      go_wp2_with fail
      go_loopw [58] (fun iv wr => ∃ (j : Nat) (d : Dk), j ≤ m ∧ iv = .int .i64 j ∧ Hid (Qw w wr B1 R1 B2 R2 d (Dk.fresh n))) (fun iv _ => m - (intOf iv).toNat)
      case atStart => exact ⟨0, _, Nat.zero_le _, rfl, HF0⟩
      case round =>
        obtain ⟨j, d, hj, rfl, HF⟩ := hrel
        clear HF0
        by_cases hq : j < m
        · have hqi : (j : Int) < (m : Int) := by omega
          have HO1 : Hid (InOps wr q m qc os) := HO.out.up HF.out.2
          obtain ⟨b, o, g, hqe, hg, hop, hblt, c0, c1, c2, c3, c4, c5, c6⟩ := HO1.out.at hq
          have HG : Hid (OpIn w g) := HO.out.each g (List.mem_of_getElem? hg)
          subst hqe
          clear hg hop HO1
          have hb5 : Below wr.heap.size wr (wr.alloc (.cells g.cells.toArray 34)) := (Below.refl _ _).alloc (Nat.le_refl _) _
          have HQ5 : Hid (Qw w (wr.alloc (.cells g.cells.toArray 34)) B1 R1 B2 R2 d (Dk.fresh n)) := HF.out.below hb5
          clear HF hb5
          by_cases h6 : g.dd = 6
          · have h6b : (g.dd != 6) = false := by simp [h6]
            clear h6
            go_wp2
            go_roundw
            case rel => exact ⟨j + 1, _, by omega, by go_num, HQ5⟩
            case measure => simp [intOf]; omega
          · have h6b : (g.dd != 6) = true := by simpa using h6
            have H6 : Hid (g.dd ≠ 6) := h6
            clear h6
            go_wp2_with fail
            refine (HQ5.out.step HG.out H6.out).mono ?_
            rintro e w7 ⟨rfl, hq7⟩
            have HQ7 : Hid (Qw w w7 B1 R1 B2 R2 (d.step g) (Dk.fresh n)) := hq7
            clear hq7 HQ5 c0 c1 c2 c3 c4 c5 c6
            go_wp2
            go_roundw
            case rel => exact ⟨j + 1, _, by omega, by go_num, HQ7⟩
            case measure => simp [intOf]; omega
        · have hjm : m = j := by omega
          subst hjm
          have HF1 : Hid (Qw w wr B2 R2 B1 R1 (Dk.fresh n) d) := HF.out.swap
          clear HF
          obtain ⟨d1, hd1q⟩ : ∃ d1, d1 = d := ⟨_, rfl⟩
          rw [← hd1q] at HF1
          clear hd1q
          go_wp2_with fail
          go_loopw [72] (fun iv wr => ∃ (j : Nat) (d : Dk), j ≤ m2 ∧ iv = .int .i64 j ∧ Hid (Qw w wr B2 R2 B1 R1 d d1)) (fun iv _ => m2 - (intOf iv).toNat)
          case atStart => exact ⟨0, _, Nat.zero_le _, rfl, HF1⟩
          case round =>
            obtain ⟨j, d, hj, rfl, HF⟩ := hrel
            clear HF1
            by_cases hq : j < m2
            · have hqi : (j : Int) < (m2 : Int) := by omega
              have HO1 : Hid (InOps wr q2 m2 qc2 os2) := HO2.out.up HF.out.2
              obtain ⟨b, o, g, hqe, hg, hop, hblt, c0, c1, c2, c3, c4, c5, c6⟩ := HO1.out.at hq
              have HG : Hid (OpIn w g) := HO2.out.each g (List.mem_of_getElem? hg)
              subst hqe
              clear hg hop HO1
              have hb5 : Below wr.heap.size wr (wr.alloc (.cells g.cells.toArray 34)) := (Below.refl _ _).alloc (Nat.le_refl _) _
              have HQ5 : Hid (Qw w (wr.alloc (.cells g.cells.toArray 34)) B2 R2 B1 R1 d d1) := HF.out.below hb5
              clear HF hb5
              by_cases h6 : g.dd = 6
              · have h6b : (g.dd != 6) = false := by simp [h6]
                clear h6
                go_wp2
                go_roundw
                case rel => exact ⟨j + 1, _, by omega, by go_num, HQ5⟩
                case measure => simp [intOf]; omega
              · have h6b : (g.dd != 6) = true := by simpa using h6
                have H6 : Hid (g.dd ≠ 6) := h6
                clear h6
                go_wp2_with fail
                refine (HQ5.out.step HG.out H6.out).mono ?_
                rintro e w7 ⟨rfl, hq7⟩
                have HQ7 : Hid (Qw w w7 B2 R2 B1 R1 (d.step g) d1) := hq7
                clear hq7 HQ5 c0 c1 c2 c3 c4 c5 c6
                go_wp2
                go_roundw
                case rel => exact ⟨j + 1, _, by omega, by go_num, HQ7⟩
                case measure => simp [intOf]; omega
            · have hjm : m2 = j := by omega
              subst hjm
              obtain ⟨d2, hd2q⟩ : ∃ d2, d2 = d := ⟨_, rfl⟩
              rw [← hd2q] at HF
              clear hd2q
              obtain ⟨bs2, rs2, bs1, rs1, hp2, hp1, -⟩ := HF.out.1
              have H1 : Hid (Pr wr B1 R1 bs1 rs1 d1 d1) := hp1
              have H2 : Hid (Pr wr B2 R2 bs2 rs2 d2 d2) := hp2
              have HB : Hid (Below w.heap.size w wr) := HF.out.2
              obtain ⟨s, hs⟩ : ∃ s, s = sameD d1 d2 := ⟨_, rfl⟩
              have HE : Hid (sameD d1 d2 = s) := hs.symm
              have HE2 : Hid (sameD d2 d1 = s) := by rw [Hid, sameD_comm, hs]
              clear hp1 hp2 HF hs
              have hss : (s == s) = true := by simp
              go_wp2_with fail
              refine (same_any H1.out.1 H2.out.1).mono ?_
              rintro e wa ⟨rfl, hba⟩
              rw [HE.out]
              have H1a : Hid (Pr wa B1 R1 bs1 rs1 d1 d1) := H1.out.below hba
              have H2a : Hid (Pr wa B2 R2 bs2 rs2 d2 d2) := H2.out.below hba
              have HBa : Hid (Below w.heap.size w wa) := HB.out.trans (hba.mono HB.out.size)
              clear hba H1 H2 HB
              go_wp2_with fail
              refine (rsame H1a.out.2.1 H2a.out.2.1).mono ?_
              rintro e wb ⟨rfl, hbb⟩
              rw [HE.out]
              have H1b : Hid (Pr wb B1 R1 bs1 rs1 d1 d1) := H1a.out.below hbb
              have H2b : Hid (Pr wb B2 R2 bs2 rs2 d2 d2) := H2a.out.below hbb
              have HBb : Hid (Below w.heap.size w wb) := HBa.out.trans (hbb.mono HBa.out.size)
              clear hbb H1a H2a HBa
              go_wp2_with fail
              refine (same_any H2b.out.1 H1b.out.1).mono ?_
              rintro e wc ⟨rfl, hbc⟩
              rw [HE2.out]
              have H1c : Hid (Pr wc B1 R1 bs1 rs1 d1 d1) := H1b.out.below hbc
              have H2c : Hid (Pr wc B2 R2 bs2 rs2 d2 d2) := H2b.out.below hbc
              have HBc : Hid (Below w.heap.size w wc) := HBb.out.trans (hbc.mono HBb.out.size)
              clear hbc H1b H2b HBb
              go_wp2_with fail
              refine (rsame H1c.out.2.1 H2c.out.2.1).mono ?_
              rintro e wd ⟨rfl, hbd⟩
              rw [HE.out]
              have H1d : Hid (Pr wd B1 R1 bs1 rs1 d1 d1) := H1c.out.below hbd
              have HBd : Hid (Below w.heap.size w wd) := HBc.out.trans (hbd.mono HBc.out.size)
              clear hbd H1c H2c HBc
              go_wp2_with fail
              refine (same_any H1d.out.1 H1d.out.1).mono ?_
              rintro e we ⟨rfl, hbe⟩
              rw [sameD_self]
              have H1e : Hid (Pr we B1 R1 bs1 rs1 d1 d1) := H1d.out.below hbe
              have HBe : Hid (Below w.heap.size w we) := HBd.out.trans (hbe.mono HBd.out.size)
              clear hbe H1d HBd
              go_wp2_with fail
              refine (same_nil H1e.out.1).mono ?_
              rintro e wf ⟨rfl, hbf⟩
              have H1f : Hid (Pr wf B1 R1 bs1 rs1 d1 d1) := H1e.out.below hbf
              have HBf : Hid (Below w.heap.size w wf) := HBe.out.trans (hbf.mono HBe.out.size)
              clear hbf H1e HBe
              go_wp2_with fail
              refine (same_not (.inl rfl) _).mono ?_
              rintro e wg ⟨rfl, hbg⟩
              have HBg : Hid (Below w.heap.size w wg) := HBf.out.trans (hbg.mono HBf.out.size)
              clear hbg H1f HBf
              go_wp2
              go_ret
              exact ⟨rfl, HBg.out⟩

end Go.Proofs.Ytahcfpfjijkchaa
