/- Which deltas are the same (the code's and the document's); Clone. -/
import Derived.Test.YtoehlgigidgfpaaGreatDlM
import Derived.Test.YtoehlgigidgfpaaGreatDlE
namespace Go.Proofs.YtoehlgigidgfpaaGreat
open Go.RowKit Go.Sort
set_option linter.unusedVariables false
set_option maxRecDepth 100000

theorem dl_agg (w : World) : (isAgg 35).run Tryz.prog w = .ok true w := by kernel_rfl
theorem dl_size (w : World) : (sizeOf 35).run Tryz.prog w = .ok 12 w := by kernel_rfl

set_option maxHeartbeats 4000000 in
theorem dsame_any (a b : De) (ap bp : Option Addr) (an bn ac bc : Nat) (w : World) (hna : a.rt.l.length = an) (hnb : b.rt.l.length = bn) (ha : Ens w ap a.rt.l) (hb : Ens w bp b.rt.l) (hl : an ≤ 4398046511104) :
    Calls Tryz.prog 89 #[dlv a.k a.e a.key a.pg a.rt.leaf a.rt.lo a.rt.hi a.rt.r ap an ac, dlv b.k b.e b.key b.pg b.rt.leaf b.rt.lo b.rt.hi b.rt.r bp bn bc] w fun r w' => r = .returned (.bool (Dl.same a b)) ∧ Below w.heap.size w w' := by
  have hq := fun (W : World) (h : Below w.heap.size w W) => same_any a.rt b.rt ap bp an bn ac bc W hna hnb (ha.below h (Nat.le_refl _)) (hb.below h (Nat.le_refl _)) hl
  have HQ : Hid _ := hq
  have HV : Hid (Dl.same a b = ((a.k == b.k) && (En.eqb a.e b.e && ((a.key.toList == b.key.toList) && ((a.pg == b.pg) && Pg.same a.rt b.rt))))) := rfl
  clear hq ha hb hna hnb
  obtain ⟨v, HW⟩ : ∃ v, Hid (Dl.same a b = v) := ⟨_, rfl⟩
  rw [HW.out]
  rw [HW.out] at HV
  clear HW
  obtain ⟨t, HT⟩ : ∃ t, Hid (Pg.same a.rt b.rt = t) := ⟨_, rfl⟩
  rw [HT.out] at HV HQ
  clear HT
  obtain ⟨ak, ⟨aek, aes, aeg, aec⟩, akey, apg, ⟨aleaf, alo, ahi, ar, al⟩⟩ := a
  obtain ⟨bk, ⟨bek, bes, beg, bec⟩, bkey, bpg, ⟨bleaf, blo, bhi, br, bl⟩⟩ := b
  simp only at *
  have hen := eqIn_en aek bek aes aeg aec bes beg bec
  obtain ⟨q, hq⟩ : ∃ q, En.eqb ⟨aek, aes, aeg, aec⟩ ⟨bek, bes, beg, bec⟩ = q := ⟨_, rfl⟩
  rw [hq] at HV
  simp only [hq] at hen
  clear hq
  obtain ⟨w0, hw0⟩ : ∃ w0, (w.alloc (.cells #[.int .i64 ak, .string aek, .int .i64 aes, .int .i64 aeg, .int .i64 aec, .string akey, .int .i64 apg, .bool aleaf, .string alo, .string ahi, .int .i64 ar, .slice ap an ac] 35)).alloc (.cells #[.int .i64 bk, .string bek, .int .i64 bes, .int .i64 beg, .int .i64 bec, .string bkey, .int .i64 bpg, .bool bleaf, .string blo, .string bhi, .int .i64 br, .slice bp bn bc] 35) = w0 := ⟨_, rfl⟩
  have HB0 : Hid (Below w.heap.size w w0) := by rw [← hw0]; exact ((Below.refl _ _).alloc (Nat.le_refl _) _).alloc (by simp) _
  have HK0 : Hid (Bk w0 w.heap.size 35 #[.int .i64 ak, .string aek, .int .i64 aes, .int .i64 aeg, .int .i64 aec, .string akey, .int .i64 apg, .bool aleaf, .string alo, .string ahi, .int .i64 ar, .slice ap an ac]) := by rw [← hw0]; exact (Bk.new _ _ _).alloc _
  have HR0 : Hid (Bk w0 (w.heap.size + 1) 35 #[.int .i64 bk, .string bek, .int .i64 bes, .int .i64 beg, .int .i64 bec, .string bkey, .int .i64 bpg, .bool bleaf, .string blo, .string bhi, .int .i64 br, .slice bp bn bc]) := by rw [← hw0]; exact Bk.new1 _ _ _ _
  have x0 : w0.cell? ⟨w.heap.size, 0, none⟩ = some (.int .i64 ak) := HK0.out.cell 0
  have x1 : w0.cell? ⟨w.heap.size, 1, none⟩ = some (.string aek) := HK0.out.cell 1
  have x2 : w0.cell? ⟨w.heap.size, 2, none⟩ = some (.int .i64 aes) := HK0.out.cell 2
  have x3 : w0.cell? ⟨w.heap.size, 3, none⟩ = some (.int .i64 aeg) := HK0.out.cell 3
  have x4 : w0.cell? ⟨w.heap.size, 4, none⟩ = some (.int .i64 aec) := HK0.out.cell 4
  have x5 : w0.cell? ⟨w.heap.size, 5, none⟩ = some (.string akey) := HK0.out.cell 5
  have x6 : w0.cell? ⟨w.heap.size, 6, none⟩ = some (.int .i64 apg) := HK0.out.cell 6
  have x7 : w0.cell? ⟨w.heap.size, 7, none⟩ = some (.bool aleaf) := HK0.out.cell 7
  have x8 : w0.cell? ⟨w.heap.size, 8, none⟩ = some (.string alo) := HK0.out.cell 8
  have x9 : w0.cell? ⟨w.heap.size, 9, none⟩ = some (.string ahi) := HK0.out.cell 9
  have x10 : w0.cell? ⟨w.heap.size, 10, none⟩ = some (.int .i64 ar) := HK0.out.cell 10
  have x11 : w0.cell? ⟨w.heap.size, 11, none⟩ = some (.slice ap an ac) := HK0.out.cell 11
  have y0 : w0.cell? ⟨w.heap.size + 1, 0, none⟩ = some (.int .i64 bk) := HR0.out.cell 0
  have y1 : w0.cell? ⟨w.heap.size + 1, 1, none⟩ = some (.string bek) := HR0.out.cell 1
  have y2 : w0.cell? ⟨w.heap.size + 1, 2, none⟩ = some (.int .i64 bes) := HR0.out.cell 2
  have y3 : w0.cell? ⟨w.heap.size + 1, 3, none⟩ = some (.int .i64 beg) := HR0.out.cell 3
  have y4 : w0.cell? ⟨w.heap.size + 1, 4, none⟩ = some (.int .i64 bec) := HR0.out.cell 4
  have y5 : w0.cell? ⟨w.heap.size + 1, 5, none⟩ = some (.string bkey) := HR0.out.cell 5
  have y6 : w0.cell? ⟨w.heap.size + 1, 6, none⟩ = some (.int .i64 bpg) := HR0.out.cell 6
  have y7 : w0.cell? ⟨w.heap.size + 1, 7, none⟩ = some (.bool bleaf) := HR0.out.cell 7
  have y8 : w0.cell? ⟨w.heap.size + 1, 8, none⟩ = some (.string blo) := HR0.out.cell 8
  have y9 : w0.cell? ⟨w.heap.size + 1, 9, none⟩ = some (.string bhi) := HR0.out.cell 9
  have y10 : w0.cell? ⟨w.heap.size + 1, 10, none⟩ = some (.int .i64 br) := HR0.out.cell 10
  have y11 : w0.cell? ⟨w.heap.size + 1, 11, none⟩ = some (.slice bp bn bc) := HR0.out.cell 11
  cases h0 : (ak == bk) with
  | false =>
    rw [h0] at HV
    go_enter Tryz.func89, Tryz.ntmps89
    go_wp2
    go_ret
    exact ⟨by rw [HV.out]; rfl, HB0.out⟩
  | true =>
    cases q with
    | false =>
      rw [h0] at HV
      go_enter Tryz.func89, Tryz.ntmps89
      go_wp2
      go_ret
      exact ⟨by rw [HV.out]; rfl, HB0.out⟩
    | true =>
      cases h2 : (akey.toList == bkey.toList) with
      | false =>
        rw [h0, h2] at HV
        go_enter Tryz.func89, Tryz.ntmps89
        go_wp2
        go_ret
        exact ⟨by rw [HV.out]; rfl, HB0.out⟩
      | true =>
        cases h3 : (apg == bpg) with
        | false =>
          rw [h0, h2, h3] at HV
          go_enter Tryz.func89, Tryz.ntmps89
          go_wp2
          go_ret
          exact ⟨by rw [HV.out]; rfl, HB0.out⟩
        | true =>
          rw [h0, h2, h3] at HV
          go_enter Tryz.func89, Tryz.ntmps89
          go_wp2_with fail
          refine (HQ.out _ HB0.out).mono ?_
          rintro e w1 ⟨rfl, hb1⟩
          have HB1 : Hid (Below w.heap.size w w1) := HB0.out.trans (hb1.mono HB0.out.size)
          clear hb1
          go_wp2
          go_ret
          exact ⟨by rw [HV.out]; simp, HB1.out⟩

set_option maxHeartbeats 4000000 in
theorem drsame_any (a b : De) (ap bp : Option Addr) (an bn ac bc : Nat) (w : World) (hna : a.rt.l.length = an) (hnb : b.rt.l.length = bn) (ha : Ens w ap a.rt.l) (hb : Ens w bp b.rt.l) (hl : an ≤ 4398046511104) :
    Calls Tryz.prog 35 #[dlv a.k a.e a.key a.pg a.rt.leaf a.rt.lo a.rt.hi a.rt.r ap an ac, dlv b.k b.e b.key b.pg b.rt.leaf b.rt.lo b.rt.hi b.rt.r bp bn bc] w fun r w' => r = .returned (.bool (Dl.same a b)) ∧ Below w.heap.size w w' := by
  have hq := fun (W : World) (h : Below w.heap.size w W) => rsame_any a.rt b.rt ap bp an bn ac bc W hna hnb (ha.below h (Nat.le_refl _)) (hb.below h (Nat.le_refl _)) hl
  have HQ : Hid _ := hq
  have HV : Hid (Dl.same a b = ((a.k == b.k) && (En.eqb a.e b.e && ((a.key.toList == b.key.toList) && ((a.pg == b.pg) && Pg.same a.rt b.rt))))) := rfl
  clear hq ha hb hna hnb
  obtain ⟨v, HW⟩ : ∃ v, Hid (Dl.same a b = v) := ⟨_, rfl⟩
  rw [HW.out]
  rw [HW.out] at HV
  clear HW
  obtain ⟨t, HT⟩ : ∃ t, Hid (Pg.same a.rt b.rt = t) := ⟨_, rfl⟩
  rw [HT.out] at HV HQ
  clear HT
  obtain ⟨ak, ⟨aek, aes, aeg, aec⟩, akey, apg, ⟨aleaf, alo, ahi, ar, al⟩⟩ := a
  obtain ⟨bk, ⟨bek, bes, beg, bec⟩, bkey, bpg, ⟨bleaf, blo, bhi, br, bl⟩⟩ := b
  simp only at *
  have hen := eqIn_en aek bek aes aeg aec bes beg bec
  obtain ⟨q, hq⟩ : ∃ q, En.eqb ⟨aek, aes, aeg, aec⟩ ⟨bek, bes, beg, bec⟩ = q := ⟨_, rfl⟩
  rw [hq] at HV
  simp only [hq] at hen
  clear hq
  obtain ⟨w0, hw0⟩ : ∃ w0, (w.alloc (.cells #[.int .i64 ak, .string aek, .int .i64 aes, .int .i64 aeg, .int .i64 aec, .string akey, .int .i64 apg, .bool aleaf, .string alo, .string ahi, .int .i64 ar, .slice ap an ac] 35)).alloc (.cells #[.int .i64 bk, .string bek, .int .i64 bes, .int .i64 beg, .int .i64 bec, .string bkey, .int .i64 bpg, .bool bleaf, .string blo, .string bhi, .int .i64 br, .slice bp bn bc] 35) = w0 := ⟨_, rfl⟩
  have HB0 : Hid (Below w.heap.size w w0) := by rw [← hw0]; exact ((Below.refl _ _).alloc (Nat.le_refl _) _).alloc (by simp) _
  have HK0 : Hid (Bk w0 w.heap.size 35 #[.int .i64 ak, .string aek, .int .i64 aes, .int .i64 aeg, .int .i64 aec, .string akey, .int .i64 apg, .bool aleaf, .string alo, .string ahi, .int .i64 ar, .slice ap an ac]) := by rw [← hw0]; exact (Bk.new _ _ _).alloc _
  have HR0 : Hid (Bk w0 (w.heap.size + 1) 35 #[.int .i64 bk, .string bek, .int .i64 bes, .int .i64 beg, .int .i64 bec, .string bkey, .int .i64 bpg, .bool bleaf, .string blo, .string bhi, .int .i64 br, .slice bp bn bc]) := by rw [← hw0]; exact Bk.new1 _ _ _ _
  have x0 : w0.cell? ⟨w.heap.size, 0, none⟩ = some (.int .i64 ak) := HK0.out.cell 0
  have x1 : w0.cell? ⟨w.heap.size, 1, none⟩ = some (.string aek) := HK0.out.cell 1
  have x2 : w0.cell? ⟨w.heap.size, 2, none⟩ = some (.int .i64 aes) := HK0.out.cell 2
  have x3 : w0.cell? ⟨w.heap.size, 3, none⟩ = some (.int .i64 aeg) := HK0.out.cell 3
  have x4 : w0.cell? ⟨w.heap.size, 4, none⟩ = some (.int .i64 aec) := HK0.out.cell 4
  have x5 : w0.cell? ⟨w.heap.size, 5, none⟩ = some (.string akey) := HK0.out.cell 5
  have x6 : w0.cell? ⟨w.heap.size, 6, none⟩ = some (.int .i64 apg) := HK0.out.cell 6
  have x7 : w0.cell? ⟨w.heap.size, 7, none⟩ = some (.bool aleaf) := HK0.out.cell 7
  have x8 : w0.cell? ⟨w.heap.size, 8, none⟩ = some (.string alo) := HK0.out.cell 8
  have x9 : w0.cell? ⟨w.heap.size, 9, none⟩ = some (.string ahi) := HK0.out.cell 9
  have x10 : w0.cell? ⟨w.heap.size, 10, none⟩ = some (.int .i64 ar) := HK0.out.cell 10
  have x11 : w0.cell? ⟨w.heap.size, 11, none⟩ = some (.slice ap an ac) := HK0.out.cell 11
  have y0 : w0.cell? ⟨w.heap.size + 1, 0, none⟩ = some (.int .i64 bk) := HR0.out.cell 0
  have y1 : w0.cell? ⟨w.heap.size + 1, 1, none⟩ = some (.string bek) := HR0.out.cell 1
  have y2 : w0.cell? ⟨w.heap.size + 1, 2, none⟩ = some (.int .i64 bes) := HR0.out.cell 2
  have y3 : w0.cell? ⟨w.heap.size + 1, 3, none⟩ = some (.int .i64 beg) := HR0.out.cell 3
  have y4 : w0.cell? ⟨w.heap.size + 1, 4, none⟩ = some (.int .i64 bec) := HR0.out.cell 4
  have y5 : w0.cell? ⟨w.heap.size + 1, 5, none⟩ = some (.string bkey) := HR0.out.cell 5
  have y6 : w0.cell? ⟨w.heap.size + 1, 6, none⟩ = some (.int .i64 bpg) := HR0.out.cell 6
  have y7 : w0.cell? ⟨w.heap.size + 1, 7, none⟩ = some (.bool bleaf) := HR0.out.cell 7
  have y8 : w0.cell? ⟨w.heap.size + 1, 8, none⟩ = some (.string blo) := HR0.out.cell 8
  have y9 : w0.cell? ⟨w.heap.size + 1, 9, none⟩ = some (.string bhi) := HR0.out.cell 9
  have y10 : w0.cell? ⟨w.heap.size + 1, 10, none⟩ = some (.int .i64 br) := HR0.out.cell 10
  have y11 : w0.cell? ⟨w.heap.size + 1, 11, none⟩ = some (.slice bp bn bc) := HR0.out.cell 11
  cases h0 : (ak == bk) with
  | false =>
    rw [h0] at HV
    go_enter Tryz.func35, Tryz.ntmps35
    go_wp2
    go_ret
    exact ⟨by rw [HV.out]; rfl, HB0.out⟩
  | true =>
    cases q with
    | false =>
      rw [h0] at HV
      go_enter Tryz.func35, Tryz.ntmps35
      go_wp2
      go_ret
      exact ⟨by rw [HV.out]; rfl, HB0.out⟩
    | true =>
      cases h2 : (akey.toList == bkey.toList) with
      | false =>
        rw [h0, h2] at HV
        go_enter Tryz.func35, Tryz.ntmps35
        go_wp2
        go_ret
        exact ⟨by rw [HV.out]; rfl, HB0.out⟩
      | true =>
        cases h3 : (apg == bpg) with
        | false =>
          rw [h0, h2, h3] at HV
          go_enter Tryz.func35, Tryz.ntmps35
          go_wp2
          go_ret
          exact ⟨by rw [HV.out]; rfl, HB0.out⟩
        | true =>
          rw [h0, h2, h3] at HV
          go_enter Tryz.func35, Tryz.ntmps35
          go_wp2_with fail
          refine (HQ.out _ HB0.out).mono ?_
          rintro e w1 ⟨rfl, hb1⟩
          have HB1 : Hid (Below w.heap.size w w1) := HB0.out.trans (hb1.mono HB0.out.size)
          clear hb1
          go_wp2
          go_ret
          exact ⟨by rw [HV.out]; simp, HB1.out⟩

/-- Twelve cells of a block written. -/
abbrev put12 (w : World) (R : Nat) (a b c d e f g h i j k l : Value) : World :=
  (((((((((((w.setCell ⟨R, 0, none⟩ a).setCell ⟨R, 1, none⟩ b).setCell ⟨R, 2, none⟩ c).setCell ⟨R, 3, none⟩ d).setCell ⟨R, 4, none⟩ e).setCell ⟨R, 5, none⟩ f).setCell ⟨R, 6, none⟩ g).setCell ⟨R, 7, none⟩ h).setCell ⟨R, 8, none⟩ i).setCell ⟨R, 9, none⟩ j).setCell ⟨R, 10, none⟩ k).setCell ⟨R, 11, none⟩ l

theorem Bk.twelve {w : World} {R : Nat} {T : TypeId} {x0 x1 x2 x3 x4 x5 x6 x7 x8 x9 x10 x11 : Value} (hh : Bk w R T #[x0, x1, x2, x3, x4, x5, x6, x7, x8, x9, x10, x11]) (a b c d e f g h i j k l : Value) : Bk (put12 w R a b c d e f g h i j k l) R T #[a, b, c, d, e, f, g, h, i, j, k, l] := by
  have := (((((((((((hh.set 0 a).set 1 b).set 2 c).set 3 d).set 4 e).set 5 f).set 6 g).set 7 h).set 8 i).set 9 j).set 10 k).set 11 l
  simpa using this

theorem Tn.twelve {S : List Nat} {a0 w : World} (hh : Tn S a0 w) {R : Nat} (hp : R ∈ S ∨ a0.heap.size ≤ R) (a b c d e f g h i j k l : Value) : Tn S a0 (put12 w R a b c d e f g h i j k l) :=
  (((((((((((hh.setCell (p := ⟨R, 0, none⟩) hp a).setCell (p := ⟨R, 1, none⟩) hp b).setCell (p := ⟨R, 2, none⟩) hp c).setCell (p := ⟨R, 3, none⟩) hp d).setCell (p := ⟨R, 4, none⟩) hp e).setCell (p := ⟨R, 5, none⟩) hp f).setCell (p := ⟨R, 6, none⟩) hp g).setCell (p := ⟨R, 7, none⟩) hp h).setCell (p := ⟨R, 8, none⟩) hp i).setCell (p := ⟨R, 9, none⟩) hp j).setCell (p := ⟨R, 10, none⟩) hp k).setCell (p := ⟨R, 11, none⟩) hp l

abbrev put5b (w : World) (R : Nat) (a b c d e : Value) : World := ((((w.setCell ⟨R, 7, none⟩ a).setCell ⟨R, 8, none⟩ b).setCell ⟨R, 9, none⟩ c).setCell ⟨R, 10, none⟩ d).setCell ⟨R, 11, none⟩ e
theorem Bk.fiveO2 {w : World} {R k : Nat} {T : TypeId} {cs : Array Value} (h : Bk w k T cs) (hne : k ≠ R) (a b c d e : Value) : Bk (put5b w R a b c d e) k T cs :=
  ((((h.other (p := ⟨R, 7, none⟩) hne a).other (p := ⟨R, 8, none⟩) hne b).other (p := ⟨R, 9, none⟩) hne c).other (p := ⟨R, 10, none⟩) hne d).other (p := ⟨R, 11, none⟩) hne e
theorem Tn.five2 {S : List Nat} {a0 w : World} (h : Tn S a0 w) {R : Nat} (hp : R ∈ S ∨ a0.heap.size ≤ R) (a b c d e : Value) : Tn S a0 (put5b w R a b c d e) :=
  ((((h.setCell (p := ⟨R, 7, none⟩) hp a).setCell (p := ⟨R, 8, none⟩) hp b).setCell (p := ⟨R, 9, none⟩) hp c).setCell (p := ⟨R, 10, none⟩) hp d).setCell (p := ⟨R, 11, none⟩) hp e

set_option maxHeartbeats 4000000 in
theorem dclone_any (a : De) (ap : Option Addr) (an ac : Nat) (w : World) (hna : a.rt.l.length = an) (ha : Ens w ap a.rt.l) (hl : an ≤ 3518437208782) (hp : ap = none → an = 0) :
    Calls Tryz.prog 60 #[dlv a.k a.e a.key a.pg a.rt.leaf a.rt.lo a.rt.hi a.rt.r ap an ac] w fun r w' => ∃ q qc, r = .returned (dlv a.k a.e a.key a.pg a.rt.leaf a.rt.lo a.rt.hi a.rt.r q an qc) ∧ OwnE w' w.heap.size (.slice q an qc) a.rt.l ∧ Below w.heap.size w w' := by
  have hq := fun (W : World) (h : Below w.heap.size w W) => pclone_any a.rt.leaf a.rt.lo a.rt.hi a.rt.r ap an ac a.rt.l W hna (ha.below h (Nat.le_refl _)) hl hp
  have HQ : Hid _ := hq
  clear hq ha hna
  obtain ⟨ak, ⟨aek, aes, aeg, aec⟩, akey, apg, ⟨aleaf, alo, ahi, ar, al⟩⟩ := a
  simp only at *
  obtain ⟨w0, hw0⟩ : ∃ w0, (w.alloc (.cells #[.int .i64 ak, .string aek, .int .i64 aes, .int .i64 aeg, .int .i64 aec, .string akey, .int .i64 apg, .bool aleaf, .string alo, .string ahi, .int .i64 ar, .slice ap an ac] 35)).alloc (.cells #[.int .i64 0, .string ⟨#[]⟩, .int .i64 0, .int .i64 0, .int .i64 0, .string ⟨#[]⟩, .int .i64 0, .bool false, .string ⟨#[]⟩, .string ⟨#[]⟩, .int .i64 0, .slice none 0 0] 35) = w0 := ⟨_, rfl⟩
  have HB0 : Hid (Below w.heap.size w w0) := by rw [← hw0]; exact ((Below.refl _ _).alloc (Nat.le_refl _) _).alloc (by simp) _
  have HK0 : Hid (Bk w0 w.heap.size 35 #[.int .i64 ak, .string aek, .int .i64 aes, .int .i64 aeg, .int .i64 aec, .string akey, .int .i64 apg, .bool aleaf, .string alo, .string ahi, .int .i64 ar, .slice ap an ac]) := by rw [← hw0]; exact (Bk.new _ _ _).alloc _
  have HR0 : Hid (Bk w0 (w.heap.size + 1) 35 #[.int .i64 0, .string ⟨#[]⟩, .int .i64 0, .int .i64 0, .int .i64 0, .string ⟨#[]⟩, .int .i64 0, .bool false, .string ⟨#[]⟩, .string ⟨#[]⟩, .int .i64 0, .slice none 0 0]) := by rw [← hw0]; exact Bk.new1 _ _ _ _
  have x0 : w0.cell? ⟨w.heap.size, 0, none⟩ = some (.int .i64 ak) := HK0.out.cell 0
  have x1 : w0.cell? ⟨w.heap.size, 1, none⟩ = some (.string aek) := HK0.out.cell 1
  have x2 : w0.cell? ⟨w.heap.size, 2, none⟩ = some (.int .i64 aes) := HK0.out.cell 2
  have x3 : w0.cell? ⟨w.heap.size, 3, none⟩ = some (.int .i64 aeg) := HK0.out.cell 3
  have x4 : w0.cell? ⟨w.heap.size, 4, none⟩ = some (.int .i64 aec) := HK0.out.cell 4
  have x5 : w0.cell? ⟨w.heap.size, 5, none⟩ = some (.string akey) := HK0.out.cell 5
  have x6 : w0.cell? ⟨w.heap.size, 6, none⟩ = some (.int .i64 apg) := HK0.out.cell 6
  have x7 : w0.cell? ⟨w.heap.size, 7, none⟩ = some (.bool aleaf) := HK0.out.cell 7
  have x8 : w0.cell? ⟨w.heap.size, 8, none⟩ = some (.string alo) := HK0.out.cell 8
  have x9 : w0.cell? ⟨w.heap.size, 9, none⟩ = some (.string ahi) := HK0.out.cell 9
  have x10 : w0.cell? ⟨w.heap.size, 10, none⟩ = some (.int .i64 ar) := HK0.out.cell 10
  have x11 : w0.cell? ⟨w.heap.size, 11, none⟩ = some (.slice ap an ac) := HK0.out.cell 11
  go_enter Tryz.func60, Tryz.ntmps60
  go_wp2_with fail
  clear hw0
  refine (HQ.out _ HB0.out).mono ?_
  rintro e w1 ⟨q, qc, rfl, ho, hb1⟩
  have HO1 : Hid (OwnE w1 w0.heap.size (.slice q an qc) al) := ho
  have HB1 : Hid (Below w.heap.size w w1) := HB0.out.trans (hb1.mono HB0.out.size)
  have HK1 : Hid (Bk w1 w.heap.size 35 #[.int .i64 ak, .string aek, .int .i64 aes, .int .i64 aeg, .int .i64 aec, .string akey, .int .i64 apg, .bool aleaf, .string alo, .string ahi, .int .i64 ar, .slice ap an ac]) := HK0.out.below hb1 HK0.out.lt
  have HR1 : Hid (Bk w1 (w.heap.size + 1) 35 #[.int .i64 0, .string ⟨#[]⟩, .int .i64 0, .int .i64 0, .int .i64 0, .string ⟨#[]⟩, .int .i64 0, .bool false, .string ⟨#[]⟩, .string ⟨#[]⟩, .int .i64 0, .slice none 0 0]) := HR0.out.below hb1 HR0.out.lt
  have HS0 : Hid (w.heap.size + 1 < w0.heap.size) := HR0.out.lt
  clear hb1 ho x0 x1 x2 x3 x4 x5 x6 x7 x8 x9 x10 x11
  have x0 : w1.cell? ⟨w.heap.size, 0, none⟩ = some (.int .i64 ak) := HK1.out.cell 0
  have xf0 : w1.frozen? ⟨w.heap.size, 0, none⟩ = false := HK1.out.frozen 0
  have x1 : w1.cell? ⟨w.heap.size, 1, none⟩ = some (.string aek) := HK1.out.cell 1
  have xf1 : w1.frozen? ⟨w.heap.size, 1, none⟩ = false := HK1.out.frozen 1
  have x2 : w1.cell? ⟨w.heap.size, 2, none⟩ = some (.int .i64 aes) := HK1.out.cell 2
  have xf2 : w1.frozen? ⟨w.heap.size, 2, none⟩ = false := HK1.out.frozen 2
  have x3 : w1.cell? ⟨w.heap.size, 3, none⟩ = some (.int .i64 aeg) := HK1.out.cell 3
  have xf3 : w1.frozen? ⟨w.heap.size, 3, none⟩ = false := HK1.out.frozen 3
  have x4 : w1.cell? ⟨w.heap.size, 4, none⟩ = some (.int .i64 aec) := HK1.out.cell 4
  have xf4 : w1.frozen? ⟨w.heap.size, 4, none⟩ = false := HK1.out.frozen 4
  have x5 : w1.cell? ⟨w.heap.size, 5, none⟩ = some (.string akey) := HK1.out.cell 5
  have xf5 : w1.frozen? ⟨w.heap.size, 5, none⟩ = false := HK1.out.frozen 5
  have x6 : w1.cell? ⟨w.heap.size, 6, none⟩ = some (.int .i64 apg) := HK1.out.cell 6
  have xf6 : w1.frozen? ⟨w.heap.size, 6, none⟩ = false := HK1.out.frozen 6
  have x7 : w1.cell? ⟨w.heap.size, 7, none⟩ = some (.bool aleaf) := HK1.out.cell 7
  have xf7 : w1.frozen? ⟨w.heap.size, 7, none⟩ = false := HK1.out.frozen 7
  have x8 : w1.cell? ⟨w.heap.size, 8, none⟩ = some (.string alo) := HK1.out.cell 8
  have xf8 : w1.frozen? ⟨w.heap.size, 8, none⟩ = false := HK1.out.frozen 8
  have x9 : w1.cell? ⟨w.heap.size, 9, none⟩ = some (.string ahi) := HK1.out.cell 9
  have xf9 : w1.frozen? ⟨w.heap.size, 9, none⟩ = false := HK1.out.frozen 9
  have x10 : w1.cell? ⟨w.heap.size, 10, none⟩ = some (.int .i64 ar) := HK1.out.cell 10
  have xf10 : w1.frozen? ⟨w.heap.size, 10, none⟩ = false := HK1.out.frozen 10
  have x11 : w1.cell? ⟨w.heap.size, 11, none⟩ = some (.slice ap an ac) := HK1.out.cell 11
  have xf11 : w1.frozen? ⟨w.heap.size, 11, none⟩ = false := HK1.out.frozen 11
  have y0 : w1.cell? ⟨w.heap.size + 1, 0, none⟩ = some (.int .i64 0) := HR1.out.cell 0
  have yf0 : w1.frozen? ⟨w.heap.size + 1, 0, none⟩ = false := HR1.out.frozen 0
  have y1 : w1.cell? ⟨w.heap.size + 1, 1, none⟩ = some (.string ⟨#[]⟩) := HR1.out.cell 1
  have yf1 : w1.frozen? ⟨w.heap.size + 1, 1, none⟩ = false := HR1.out.frozen 1
  have y2 : w1.cell? ⟨w.heap.size + 1, 2, none⟩ = some (.int .i64 0) := HR1.out.cell 2
  have yf2 : w1.frozen? ⟨w.heap.size + 1, 2, none⟩ = false := HR1.out.frozen 2
  have y3 : w1.cell? ⟨w.heap.size + 1, 3, none⟩ = some (.int .i64 0) := HR1.out.cell 3
  have yf3 : w1.frozen? ⟨w.heap.size + 1, 3, none⟩ = false := HR1.out.frozen 3
  have y4 : w1.cell? ⟨w.heap.size + 1, 4, none⟩ = some (.int .i64 0) := HR1.out.cell 4
  have yf4 : w1.frozen? ⟨w.heap.size + 1, 4, none⟩ = false := HR1.out.frozen 4
  have y5 : w1.cell? ⟨w.heap.size + 1, 5, none⟩ = some (.string ⟨#[]⟩) := HR1.out.cell 5
  have yf5 : w1.frozen? ⟨w.heap.size + 1, 5, none⟩ = false := HR1.out.frozen 5
  have y6 : w1.cell? ⟨w.heap.size + 1, 6, none⟩ = some (.int .i64 0) := HR1.out.cell 6
  have yf6 : w1.frozen? ⟨w.heap.size + 1, 6, none⟩ = false := HR1.out.frozen 6
  have y7 : w1.cell? ⟨w.heap.size + 1, 7, none⟩ = some (.bool false) := HR1.out.cell 7
  have yf7 : w1.frozen? ⟨w.heap.size + 1, 7, none⟩ = false := HR1.out.frozen 7
  have y8 : w1.cell? ⟨w.heap.size + 1, 8, none⟩ = some (.string ⟨#[]⟩) := HR1.out.cell 8
  have yf8 : w1.frozen? ⟨w.heap.size + 1, 8, none⟩ = false := HR1.out.frozen 8
  have y9 : w1.cell? ⟨w.heap.size + 1, 9, none⟩ = some (.string ⟨#[]⟩) := HR1.out.cell 9
  have yf9 : w1.frozen? ⟨w.heap.size + 1, 9, none⟩ = false := HR1.out.frozen 9
  have y10 : w1.cell? ⟨w.heap.size + 1, 10, none⟩ = some (.int .i64 0) := HR1.out.cell 10
  have yf10 : w1.frozen? ⟨w.heap.size + 1, 10, none⟩ = false := HR1.out.frozen 10
  have y11 : w1.cell? ⟨w.heap.size + 1, 11, none⟩ = some (.slice none 0 0) := HR1.out.cell 11
  have yf11 : w1.frozen? ⟨w.heap.size + 1, 11, none⟩ = false := HR1.out.frozen 11
  go_wp2_with fail
  have k1 := HR1.out.fiveO2 (show w.heap.size + 1 ≠ w.heap.size by omega) (.bool aleaf) (.string alo) (.string ahi) (.int .i64 ar) (.slice q an qc)
  have hA := Bk.twelve k1 (.int .i64 ak) (.string aek) (.int .i64 aes) (.int .i64 aeg) (.int .i64 aec) (.string akey) (.int .i64 apg) (.bool aleaf) (.string alo) (.string ahi) (.int .i64 ar) (.slice q an qc)
  have ht : Tn [w.heap.size, w.heap.size + 1] w1 _ := ((Tn.refl _ _).five2 (R := w.heap.size) (.inl (by simp)) (.bool aleaf) (.string alo) (.string ahi) (.int .i64 ar) (.slice q an qc)).twelve (R := w.heap.size + 1) (.inl (by simp)) (.int .i64 ak) (.string aek) (.int .i64 aes) (.int .i64 aeg) (.int .i64 aec) (.string akey) (.int .i64 apg) (.bool aleaf) (.string alo) (.string ahi) (.int .i64 ar) (.slice q an qc)
  refine bodyPost_ret (results_one (cs := [.int .i64 ak, .string aek, .int .i64 aes, .int .i64 aeg, .int .i64 aec, .string akey, .int .i64 apg, .bool aleaf, .string alo, .string ahi, .int .i64 ar, .slice q an qc]) rfl rfl dl_agg dl_size rfl hA) rfl ?_
  refine ⟨q, qc, rfl, ?_, HB1.out.trans (ht.below HB1.out.size (by simp))⟩
  exact (HO1.out.tn ht (by have := HS0.out; simp; omega)).mono HB0.out.size

end Go.Proofs.YtoehlgigidgfpaaGreat
