/- The statements' own first look at a disk. -/
import Derived.Test.YtpggnejifpcnmaaDkNew
namespace Go.Proofs.Ytpggnejifpcnmaa
open Go.RowKit Go.Shelf Go.Maps
set_option linter.unusedVariables false

/-- A sector written, with no fuse. -/
def Dk.put (d : Dk) (i : Nat) (xs : List Int) : Dk := { d with dirty := upd d.dirty i xs, calls := wrap64 (d.calls + 1) }
/-- A barrier, with no fuse. -/
def Dk.flush (d : Dk) : Dk := { d with sure := d.last, dirty := fun _ => none, calls := wrap64 (d.calls + 1) }

theorem Dk.wrote_free {d : Dk} (h : d.left = 0) (i : Nat) (xs : List Int) : d.wrote i xs = (0, d.put i xs) := by
  simp [Dk.wrote, Dk.count, h, Dk.put]
theorem Dk.barrier_free {d : Dk} (h : d.left = 0) : d.barrier = (0, d.flush) := by
  simp [Dk.barrier, Dk.count, h, Dk.flush]
  rfl

theorem write_free {w : World} {B : Nat} {bs : List Nat} {d : Dk} (h : Dsk w B bs d) (hd : d.down = false) (hl : d.left = 0) (i : Nat) (hi : i < d.n) (g c : Nat) (xs : List Int) (hs : Sec xs) (hsrc : Row w g xs) :
    Calls Try.prog 23 #[.pointer (some ⟨B, 0, none⟩), .int .i64 (i : Int), .slice (some ⟨g, 0, none⟩) 512 c] w fun e w' => e = .returned (.int .i64 0) ∧ Turns w w' B bs (d.put i xs) := by
  have := write_ok h hd i hi g 0 c xs hs (hsrc.sec hs.1)
  rw [Dk.wrote_free hl] at this
  exact this

theorem barrier_free {w : World} {B : Nat} {bs : List Nat} {d : Dk} (h : Dsk w B bs d) (hd : d.down = false) (hl : d.left = 0) :
    Calls Try.prog 24 #[.pointer (some ⟨B, 0, none⟩)] w fun e w' => e = .returned (.int .i64 0) ∧ Turns w w' B bs d.flush := by
  have := barrier_up h hd
  rw [Dk.barrier_free hl] at this
  exact this

/-- What is a disk's lies from a block on. -/
def DskF (w : World) (m B : Nat) (d : Dk) : Prop := ∃ bs, Dsk w B bs d ∧ ∀ b ∈ bs, m ≤ b

theorem DskF.below {w w' : World} {m B : Nat} {d : Dk} (h : DskF w m B d) (k : Below w.heap.size w w') : DskF w' m B d := by
  obtain ⟨bs, h1, h2⟩ := h
  exact ⟨bs, h1.below k, h2⟩

/-- A change of a disk, seen from below. -/
theorem Turns.from {w w' : World} {m B : Nat} {bs : List Nat} {d : Dk} (h : Turns w w' B bs d) (hm : ∀ b ∈ bs, m ≤ b) (hw : m ≤ w.heap.size) : DskF w' m B d ∧ Below m w w' := by
  obtain ⟨bs', h1, h2, h3⟩ := h
  refine ⟨⟨bs', h1, fun b hb => ?_⟩, h2.below hw hm⟩
  rcases h3 b hb with h | h
  · exact hm b h
  · omega

section
variable {w : World} {m B : Nat} {d : Dk}
theorem writeF (h : DskF w m B d) (hm : m ≤ w.heap.size) (hd : d.down = false) (hl : d.left = 0) (i : Nat) (hi : i < d.n) (g c : Nat) (xs : List Int) (hs : Sec xs) (hsrc : Row w g xs) :
    Calls Try.prog 23 #[.pointer (some ⟨B, 0, none⟩), .int .i64 (i : Int), .slice (some ⟨g, 0, none⟩) 512 c] w fun e w' => e = .returned (.int .i64 0) ∧ DskF w' m B (d.put i xs) ∧ Below m w w' := by
  obtain ⟨bs, h1, h2⟩ := h
  exact (write_free h1 hd hl i hi g c xs hs hsrc).mono fun e w' ⟨he, ht⟩ => ⟨he, ht.from h2 hm⟩
theorem barrierF (h : DskF w m B d) (hm : m ≤ w.heap.size) (hd : d.down = false) (hl : d.left = 0) :
    Calls Try.prog 24 #[.pointer (some ⟨B, 0, none⟩)] w fun e w' => e = .returned (.int .i64 0) ∧ DskF w' m B d.flush ∧ Below m w w' := by
  obtain ⟨bs, h1, h2⟩ := h
  exact (barrier_free h1 hd hl).mono fun e w' ⟨he, ht⟩ => ⟨he, ht.from h2 hm⟩
theorem crashF (h : DskF w m B d) (hm : m ≤ w.heap.size) (hd : d.down = false) (p : Option Addr) (c : Nat) (ks : List Bool) (len : Nat) (hlen : ks.length = len) (hks : Bls w p ks) (hlow : ∀ ad, p = some ad → 0 < ks.length → ad.block < m) :
    Calls Try.prog 25 #[.pointer (some ⟨B, 0, none⟩), .slice p len c] w fun e w' => e = .returned (.int .i64 0) ∧ DskF w' m B (d.lose ks) ∧ Below m w w' := by
  obtain ⟨bs, h1, h2⟩ := h
  exact (crash_up h1 hd p c ks len hlen hks (fun ad ha hl hb => by have := h2 _ hb; have := hlow ad ha hl; omega)).mono fun e w' ⟨he, ht⟩ => ⟨he, ht.from h2 hm⟩
theorem restartF (h : DskF w m B d) (hm : m ≤ w.heap.size) :
    Calls Try.prog 18 #[.pointer (some ⟨B, 0, none⟩)] w fun e w' => e = .returned (.int .i64 0) ∧ DskF w' m B { d with down := false } ∧ Below m w w' := by
  obtain ⟨bs, h1, h2⟩ := h
  exact (restart_any h1).mono fun e w' ⟨he, ht⟩ => ⟨he, ht.from h2 hm⟩
theorem readF (h : DskF w m B d) (i : Nat) (hi : i < d.n) (hd : d.down = false) :
    Calls Try.prog 26 #[.pointer (some ⟨B, 0, none⟩), .int .i64 (i : Int)] w fun e w' => ∃ g, e = .returned (.tuple #[.slice (some ⟨g, 0, none⟩) 512 512, .int .i64 0]) ∧ w.heap.size ≤ g ∧ Row w' g (d.last i) ∧ DskF w' m B d ∧ Below w.heap.size w w' := by
  have h0 := h
  obtain ⟨bs, h1, h2⟩ := h
  exact (read_ok h1 i hi hd).mono fun e w' ⟨g, he, hg, hb, hbel⟩ => ⟨g, he, hg, Row.of_sec hb, h0.below hbel, hbel⟩
end

theorem newF (n : Nat) (w : World) (h1 : 1 ≤ n) (h2 : n ≤ 16384) :
    Calls Try.prog 9 #[.int .i64 (n : Int)] w fun e w' => ∃ B, e = .returned (.tuple #[.pointer (some ⟨B, 0, none⟩), .int .i64 0]) ∧ DskF w' w.heap.size B (Dk.fresh n) ∧ Below w.heap.size w w' :=
  (new_any n w h1 h2).mono fun e w' ⟨B, bs, he, h, hb, hbel⟩ => ⟨B, he, ⟨bs, h, hb⟩, hbel⟩

theorem eqRow {w : World} {g g' : Nat} {xs ys : List Int} (h : Row w g xs) (h' : Row w g' ys) (hx : Sec xs) (hy : Sec ys) (c c' : Nat) :
    Calls Try.prog 27 #[.slice (some ⟨g, 0, none⟩) 512 c, .slice (some ⟨g', 0, none⟩) 512 c'] w fun e w' => e = .returned (.bool (decide (xs = ys))) ∧ w' = w :=
  equal_any _ _ c c' 512 512 xs ys w hx.1 hy.1 h.bys h'.bys hx.2 hy.2

/-- 'make([]byte, 512)', guarded or not. -/
theorem wp_make_secW {w : World} {ops : Array Oper} {rest : List Oper} {o : Oper} {a : Act} {Q : Exit → Act → World → Prop} (hw : Region.wanted o (yielded ops a.tmps) = true) (l c : Operand) (hop : o.op = Op.makeSlice 32 l c) (hl : a.eval l = .int .i64 512) (hc : a.eval c = .int .i64 512)
    (hK : ∀ w' xs, xs.length = 512 → xs = zeros → Bk w' w.heap.size 5 (secCells xs) → Below w.heap.size w w' → w'.heap.size = w.heap.size + 1 → wpList Try.prog ops Q rest (a.put o.dst (.slice (some ⟨w.heap.size, 0, none⟩) 512 512)) w') : wpList Try.prog ops Q (o :: rest) a w := by
  refine BigFrame.wpList_want hw fun K hK' => ?_
  unfold Oper.wp
  simp [execOp, hop, hl, hc, run_make_sec, Result.andThen]
  exact hK' _ _ (hK _ zeros sec_zeros.1 rfl (Bk.new _ _ _) ((Below.refl _ _).alloc (Nat.le_refl _) _) (by simp))

set_option maxRecDepth 100000 in
set_option maxHeartbeats 4000000 in
theorem begun_any (w : World) : Calls Try.prog 11 #[] w fun e w' => e = .returned (.bool true) ∧ Below w.heap.size w w' := by
  have s12 : Sec (sct 1 2) := sec_sct (by omega) (by omega)
  have s34 : Sec (sct 3 4) := sec_sct (by omega) (by omega)
  have HS12 : Hid (Sec (sct 1 2)) := s12
  have HS34 : Hid (Sec (sct 3 4)) := s34
  clear s12 s34
  go_enter Try.func11, Try.ntmps11
  go_wp2_with fail
  refine (newF 2 w (by omega) (by omega)).mono ?_
  rintro e w1 ⟨B, rfl, hd1, hb1⟩
  have HD1 : Hid (DskF w1 w.heap.size B (Dk.fresh 2)) := hd1
  have HB1 : Hid (Below w.heap.size w w1) := hb1
  clear hd1 hb1
  go_wp2_with fail
  refine (sector_any 1 2 w1).mono ?_
  rintro e w2 ⟨g2, rfl, hg2, hr2, hb2⟩
  have HD2 : Hid (DskF w2 w.heap.size B (Dk.fresh 2)) := HD1.out.below hb2
  have HB2 : Hid (Below w.heap.size w w2) := HB1.out.trans (hb2.mono HB1.out.size)
  have HR2 : Hid (Row w2 g2 (sct 1 2)) := hr2
  clear hg2 hr2 hb2 HD1 HB1
  go_wp2_with fail
  refine (writeF HD2.out HB2.out.size rfl rfl 0 (by show 0 < 2; omega) g2 512 (sct 1 2) HS12.out HR2.out).mono ?_
  rintro e w3 ⟨rfl, hd3, hb3⟩
  have HD3 : Hid (DskF w3 w.heap.size B ((Dk.fresh 2).put 0 (sct 1 2))) := hd3
  have HB3 : Hid (Below w.heap.size w w3) := HB2.out.trans hb3
  clear hd3 hb3 HD2 HB2 HR2
  go_wp2_with fail
  refine (barrierF HD3.out HB3.out.size rfl rfl).mono ?_
  rintro e w4 ⟨rfl, hd4, hb4⟩
  have HD4 : Hid (DskF w4 w.heap.size B ((Dk.fresh 2).put 0 (sct 1 2)).flush) := hd4
  have HB4 : Hid (Below w.heap.size w w4) := HB3.out.trans hb4
  clear hd4 hb4 HD3 HB3
  go_wp2_with fail
  refine (sector_any 3 4 w4).mono ?_
  rintro e w5 ⟨g5, rfl, hg5, hr5, hb5⟩
  have HD5 : Hid (DskF w5 w.heap.size B ((Dk.fresh 2).put 0 (sct 1 2)).flush) := HD4.out.below hb5
  have HB5 : Hid (Below w.heap.size w w5) := HB4.out.trans (hb5.mono HB4.out.size)
  have HR5 : Hid (Row w5 g5 (sct 3 4)) := hr5
  clear hg5 hr5 hb5 HD4 HB4
  go_wp2_with fail
  refine (writeF HD5.out HB5.out.size rfl rfl 1 (by show 1 < 2; omega) g5 512 (sct 3 4) HS34.out HR5.out).mono ?_
  rintro e w6 ⟨rfl, hd6, hb6⟩
  have HD6 : Hid (DskF w6 w.heap.size B (((Dk.fresh 2).put 0 (sct 1 2)).flush.put 1 (sct 3 4))) := hd6
  have HB6 : Hid (Below w.heap.size w w6) := HB5.out.trans hb6
  clear hd6 hb6 HD5 HB5 HR5
  go_wp2_with fail
  refine (crashF HD6.out HB6.out.size rfl none 0 [] 0 rfl (Bls.nil _ _) (fun ad h => by cases h)).mono ?_
  rintro e w7 ⟨rfl, hd7, hb7⟩
  have HD7 : Hid (DskF w7 w.heap.size B ((((Dk.fresh 2).put 0 (sct 1 2)).flush.put 1 (sct 3 4)).lose [])) := hd7
  have HB7 : Hid (Below w.heap.size w w7) := HB6.out.trans hb7
  clear hd7 hb7 HD6 HB6
  go_wp2_with fail
  refine (restartF HD7.out HB7.out.size).mono ?_
  rintro e w8 ⟨rfl, hd8, hb8⟩
  have HB8 : Hid (Below w.heap.size w w8) := HB7.out.trans hb8
  have hl0 : ({ (((Dk.fresh 2).put 0 (sct 1 2)).flush.put 1 (sct 3 4)).lose [] with down := false } : Dk).last 0 = sct 1 2 := rfl
  have hl1 : ({ (((Dk.fresh 2).put 0 (sct 1 2)).flush.put 1 (sct 3 4)).lose [] with down := false } : Dk).last 1 = zeros := rfl
  have hn : ({ (((Dk.fresh 2).put 0 (sct 1 2)).flush.put 1 (sct 3 4)).lose [] with down := false } : Dk).n = 2 := rfl
  have hdn : ({ (((Dk.fresh 2).put 0 (sct 1 2)).flush.put 1 (sct 3 4)).lose [] with down := false } : Dk).down = false := rfl
  generalize ({ (((Dk.fresh 2).put 0 (sct 1 2)).flush.put 1 (sct 3 4)).lose [] with down := false } : Dk) = d8 at *
  have HD8 : Hid (DskF w8 w.heap.size B d8) := hd8
  have HL0 : Hid (d8.last 0 = sct 1 2) := hl0
  have HL1 : Hid (d8.last 1 = zeros) := hl1
  have HN : Hid (d8.n = 2) := hn
  have HDN : Hid (d8.down = false) := hdn
  clear hd8 hb8 HD7 HB7 hl0 hl1 hn hdn
  go_wp2_with fail
  refine (readF HD8.out 0 (by rw [HN.out]; omega) HDN.out).mono ?_
  rintro e w9 ⟨g9, rfl, hg9, hr9, hd9, hb9⟩
  rw [HL0.out] at hr9
  have HD9 : Hid (DskF w9 w.heap.size B d8) := hd9
  have HR9 : Hid (Row w9 g9 (sct 1 2)) := hr9
  have HB9 : Hid (Below w.heap.size w w9) := HB8.out.trans (hb9.mono HB8.out.size)
  clear hg9 hr9 hd9 hb9 HD8 HB8
  go_wp2_with fail
  refine (readF HD9.out 1 (by rw [HN.out]; omega) HDN.out).mono ?_
  rintro e wa ⟨ga, rfl, hga, hra, hda, hba⟩
  rw [HL1.out] at hra
  have HRa9 : Hid (Row wa g9 (sct 1 2)) := HR9.out.below hba HR9.out.lt
  have HRa : Hid (Row wa ga zeros) := hra
  have HBa : Hid (Below w.heap.size w wa) := HB9.out.trans (hba.mono HB9.out.size)
  clear hga hra hda hba HD9 HR9 HB9
  go_wp2_with fail
  refine (sector_any 1 2 wa).mono ?_
  rintro e wb ⟨gb, rfl, hgb, hrb, hbb⟩
  have HRb9 : Hid (Row wb g9 (sct 1 2)) := HRa9.out.below hbb HRa9.out.lt
  have HRba : Hid (Row wb ga zeros) := HRa.out.below hbb HRa.out.lt
  have HRb : Hid (Row wb gb (sct 1 2)) := hrb
  have HBb : Hid (Below w.heap.size w wb) := HBa.out.trans (hbb.mono HBa.out.size)
  clear hgb hrb hbb HRa9 HRa HBa
  go_wp2_with fail
  refine (eqRow HRb9.out HRb.out HS12.out HS12.out _ _).mono ?_
  rintro e wc ⟨rfl, rfl⟩
  simp only [decide_true]
  go_wp2_with (refine wp_make_secW rfl _ _ rfl rfl rfl ?_; intro wd zd hld hzd hzbk hbd hsd; refine Hid.out ?_)
  unfold Hid
  have HRd : Hid (Row wd wc.heap.size zd) := Row.of_sec hzbk
  have HRda : Hid (Row wd ga zeros) := HRba.out.below hbd HRba.out.lt
  have HBd : Hid (Below w.heap.size w wd) := HBb.out.trans (hbd.mono HBb.out.size)
  have HZ : Hid (zd = zeros) := hzd
  clear hzd hzbk hbd hsd HRb9 HRba HRb HBb
  go_wp2_with fail
  refine (eqRow HRda.out HRd.out sec_zeros (by rw [HZ.out]; exact sec_zeros) _ _).mono ?_
  rintro e we ⟨rfl, rfl⟩
  rw [show decide (zeros = zd) = true from decide_eq_true HZ.out.symm]
  go_wp2
  go_ret
  exact ⟨rfl, HBd.out⟩

end Go.Proofs.Ytpggnejifpcnmaa
