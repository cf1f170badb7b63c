/- Each answer of a box of texts is the document's, whatever a script does. -/
import Derived.Test.YtjfmilfplidepaaCeRb
import Derived.Test.YtjfmilfplidepaaCeOpen
import Derived.Deep.RegionHeld3
namespace Go.Proofs.Ytjfmilfplidepaa
open Go.ChangeShapes Go.WideShapes Go.ChangeAt Go.RowKit Go.Conc
open Go.ChangeMaps (open_string shut_string)
set_option linter.unusedVariables false
set_option maxRecDepth 100000

theorem Bk.unlike {w : World} {a b : Nat} {t t' : TypeId} {cs cs' : Array Value} (h : Bk w a t cs) (k : Bk w b t' cs') (ht : t ≠ t') : a ≠ b := by
  intro e
  subst e
  have := (show w.heap[a]? = _ from h).symm.trans (show w.heap[a]? = _ from k)
  simp at this
  exact ht this.2

/-- A box and the document's. -/
structure Bw (w wr : World) (B c R room : Nat) (xs : List ByteArray) : Prop where
  bx : ∃ bs, BxS wr B c room bs xs
  rb : ∃ v, Rb wr R room v xs
  lc : w.heap.size ≤ c
  lr : w.heap.size ≤ R
  below : Below w.heap.size w wr

theorem Bw.still {w wr w' : World} {B c R room : Nat} {xs : List ByteArray} (h : Bw w wr B c R room xs) (hb : Below wr.heap.size wr w') : Bw w w' B c R room xs := by
  obtain ⟨bs, h1⟩ := h.bx
  obtain ⟨v, h2⟩ := h.rb
  exact ⟨⟨bs, h1.below hb⟩, ⟨v, h2.below hb⟩, h.lc, h.lr, h.below.trans (hb.mono h.below.size)⟩

/-- What turns a box's channel leaves the document's box. -/
theorem Rb.chan {w w' : World} {c room R rm : Nat} {buf : Array Value} {v : Value} {xs : List ByteArray} (h : Rb w R rm v xs) (k : Ch w c room buf) (t : Tn [c] w w') : Rb w' R rm v xs :=
  h.tn t (by simpa using k.ne h.blk) (fun s hs cs hk => by simp at hs; subst hs; exact k.ne hk rfl)

/-- What turns the document's box leaves a box. -/
theorem BxS.ref {w w' : World} {B c room R rm : Nat} {bs : List Nat} {v : Value} {xs ys : List ByteArray} (h : BxS w B c room bs xs) (k : Rb w R rm v ys) (t : Tn [R] w w') : BxS w' B c room bs xs :=
  h.tn t (by simpa using h.blk.unlike k.blk (by decide)) (by simpa using fun e => h.ch.ne k.blk e.symm) (fun b hb => by obtain ⟨x, hx⟩ := h.mem hb; simpa using hx.unlike k.blk (by decide))

/-- The box was changed, then the document's. -/
theorem Bw.both {w wr w2 w3 : World} {B c R room k : Nat} {xs ys : List ByteArray} (h : Bw w wr B c R room xs) (hb : Below wr.heap.size wr w2) (t3 : Tn [c] w2 w3) (b3 : ∃ bs, BxS w3 B c room bs ys) :
    (∃ v, Rb w3 R room v xs) ∧ Below w.heap.size w w3 ∧ ∀ w4, Tn [R] w3 w4 → (∃ v, Rb w4 R room v ys) → Bw w w4 B c R room ys := by
  have h2 := h.still hb
  obtain ⟨bs, hx⟩ := h2.bx
  obtain ⟨v, hr⟩ := h2.rb
  have r3 := hr.chan hx.ch t3
  have hw3 := h2.below.trans (t3.below h2.below.size (by simpa using h.lc))
  refine ⟨⟨v, r3⟩, hw3, fun w4 t4 r4 => ?_⟩
  obtain ⟨bs3, b3⟩ := b3
  exact ⟨⟨bs3, b3.ref r3 t4⟩, r4, h.lc, h.lr, hw3.trans (t4.below hw3.size (by simpa using h.lr))⟩

/-- The box of an operation. -/
def Ob (W : World) (O : Nat) (g : Cop) : Prop := Bk W O 30 #[.int .i64 g.dd, .int .i64 g.was, .int .i64 g.is, .string g.x]
theorem Ob.x {W : World} {O : Nat} {g : Cop} (h : Ob W O g) : W.cell? ⟨O, 3, none⟩ = some (.string g.x) := Bk.cell h 3
theorem Ob.chan {w w' : World} {O c room : Nat} {buf : Array Value} {g : Cop} (h : Ob w O g) (k : Ch w c room buf) (t : Tn [c] w w') : Ob w' O g := Bk.tn h t (by simpa using k.ne h)
theorem Ob.ref {w w' : World} {O R rm : Nat} {v : Value} {ys : List ByteArray} {g : Cop} (h : Ob w O g) (k : Rb w R rm v ys) (t : Tn [R] w w') : Ob w' O g := Bk.tn h t (by simpa using Bk.unlike h k.blk (by decide))

/-- What is asked of both at the end of a round. -/
theorem Bw.asks {w wr : World} {B c R room : Nat} {xs : List ByteArray} (h : Bw w wr B c R room xs) : ∃ bs n p cp, n = xs.length ∧ Hid (∀ k, BxS (wr.drewN k) B c room bs xs) ∧ wr.cell? ⟨R, 0, none⟩ = some (.slice p n cp) ∧ wr.cell? ⟨R, 1, none⟩ = some (.int .i64 (room : Int)) := by
  obtain ⟨bs, h1⟩ := h.bx
  obtain ⟨v, h2⟩ := h.rb
  obtain ⟨p, cp, hv⟩ := h2.row.form
  subst hv
  exact ⟨bs, _, p, cp, rfl, fun k => h1.below (below_drewC (Below.refl _ _) k), h2.blk.cell 0, h2.blk.cell 1⟩

set_option maxHeartbeats 16000000 in
theorem walk_cellsBox (rm : Int) (a : Option Addr) (len cap : Nat) (l : List Cop) (w : World) (_hf : (Lit.int IntKind.i64 rm).wf = true) (hin : InC w a len cap l) :
    Calls Try.prog 4 #[.int .i64 rm, .slice a len cap] w fun e w' => e = .returned (.bool true) ∧ Below w.heap.size w w' := by
  have hroom : len ≤ 3518437208780 := by have := hin.le; have := hin.room; omega
  have HI : Hid (InC w a len cap l) := hin
  clear hin _hf
  by_cases hbad : rm < 1 ∨ 4096 < rm
  · have HB : Hid (rm < 1 ∨ 4096 < rm) := hbad
    clear hbad
    go_enter Try.func4, Try.ntmps4
    go_wp2_with fail
    refine (newBox_bad rm HB.out w).mono ?_
    rintro e w1 ⟨rfl, rfl⟩
    go_wp2_with fail
    refine (rnewBox_bad rm HB.out w1).mono ?_
    rintro e w2 ⟨rfl, rfl⟩
    go_wp2_with fail
    refine (begun_any w2).mono ?_
    rintro e w3 ⟨rfl, hb3⟩
    have HE : Hid (Below w2.heap.size w2 w3) := hb3
    clear hb3
    go_wp2
    go_ret
    exact ⟨rfl, HE.out⟩
  · obtain ⟨room, rfl⟩ : ∃ room : Nat, rm = (room : Int) := ⟨rm.toNat, by omega⟩
    have hr1 : 1 ≤ room := by omega
    have hr2 : room ≤ 4096 := by omega
    clear hbad
    go_enter Try.func4, Try.ntmps4
    go_wp2_with fail
    refine (newBox_anyS room hr1 hr2 w).mono ?_
    rintro e w1 ⟨rfl, hb1, t1⟩
    have H1 : Hid (BxS w1 (w.heap.size + 1) w.heap.size room [] [] ∧ Below w.heap.size w w1) := ⟨hb1, t1⟩
    clear hb1 t1
    go_wp2_with fail
    refine (rnewBox_any room hr1 hr2 w1).mono ?_
    rintro e w2 ⟨rfl, hb2, t2⟩
    have H2 : Hid (Bw w w2 (w.heap.size + 1) w.heap.size w1.heap.size room []) := ⟨⟨_, H1.out.1.below t2⟩, ⟨_, hb2⟩, Nat.le_refl _, H1.out.2.size, H1.out.2.trans (t2.mono H1.out.2.size)⟩
    clear hb2 t2 H1
    go_wp2_with fail
    refine (begun_any w2).mono ?_
    rintro e w3 ⟨rfl, hb3⟩
    have HP0 : Hid (Bw w w3 (w.heap.size + 1) w.heap.size w1.heap.size room []) := H2.out.still hb3
    clear hb3 H2
    obtain ⟨R, hR⟩ : ∃ R, w1.heap.size = R := ⟨_, rfl⟩
    rw [hR] at HP0 ⊢
    clear hR
    go_wp2_with fail
    go_loopw [5, 48] (fun bv iv wr => ∃ (j B c : Nat) (xs : List ByteArray), j ≤ len ∧ iv = .int .i64 j ∧ bv = .pointer (some ⟨B, 0, none⟩) ∧ Hid (Bw w wr B c R room xs)) (fun _ iv _ => len - (intOf iv).toNat)
    case atStart => exact ⟨0, _, _, _, Nat.zero_le _, rfl, rfl, HP0⟩
    case round =>
      obtain ⟨j, B, c, xs, hj, rfl, rfl, HP⟩ := hrel
      by_cases hlt : j < len
      · have hli : (j : Int) < (len : Int) := by omega
        obtain ⟨b, o, g, rfl, hg, hb, c0, c1, c2, c3⟩ := InC.at4 (HI.out.up HP.out.below) hlt
        obtain ⟨wo, hwo⟩ : ∃ wo, wr.alloc (.cells #[.int .i64 g.dd, .int .i64 g.was, .int .i64 g.is, .string g.x] 30) = wo := ⟨_, rfl⟩
        have HO : Hid (Ob wo wr.heap.size g) := by rw [← hwo]; exact Bk.new _ _ _
        have HPO : Hid (Bw w wo B c R room xs) := by rw [← hwo]; exact HP.out.still ((Below.refl _ wr).alloc (Nat.le_refl _) _)
        have d0 : wo.cell? ⟨wr.heap.size, 0, none⟩ = some (.int .i64 g.dd) := Bk.cell HO.out 0
        have d3 := HO.out.x
        obtain ⟨bs, hbs⟩ := HPO.out.bx
        have HBX : Hid (BxS wo B c room bs xs) := hbs
        clear hg hb hbs
        by_cases h3 : g.dd = 3
        · rw [h3] at c0 d0 hwo
          by_cases hfull : xs.length < room
          · have HFL : Hid (xs.length < room) := hfull
            clear hfull
            go_wp2_with fail
            go_region_held3 (fun w' => w'.cell? ⟨wr.heap.size, 3, none⟩ = some (.string g.x)) (go_keep) (first
              | (go_at_call 18; refine (put_anyS (HBX.out.below (below_drewC (Below.refl _ wo) 1)) g.x HFL.out).mono ?_; rintro e w4 ⟨rfl, ⟨b4, hb4⟩, t4⟩; obtain ⟨⟨v4, hr4⟩, hw4, hall4⟩ := HPO.out.both (k := 0) (below_drewC (Below.refl _ wo) 1) t4 ⟨_, hb4⟩; have ho4 := Ob.chan (w := wo.drew) HO.out (HBX.out.below (below_drewC (Below.refl _ wo) 1)).ch t4; have s3 := Ob.x ho4)
              | (go_at_call 19; refine (rput_any hr4 g.x HFL.out hr2).mono ?_; rintro e w5 ⟨rfl, hr5, t5⟩; have hP5 := hall4 w5 t5 hr5; have ho5 := Ob.ref ho4 hr4 t5; have s3 := Ob.x ho5))
            have HP5 : Hid (Bw w w5 B c R room (xs ++ [g.x])) := hP5
            clear hP5 hr5 t5 ho5 hr4 hw4 hall4 ho4 hb4 t4 s3
            obtain ⟨bs9, n9, p9, cp9, hn9, HB9, r0, r1⟩ := HP5.out.asks
            have HN9 : Hid (n9 = _) := hn9
            clear hn9
            go_wp2_with fail
            go_quiet (first
              | (go_at_call 23; refine Calls.quiet_of_same (blen_anyS (by first | exact HB9.out 0 | exact HB9.out _) n9 HN9.out))
              | (go_at_call 24; refine Calls.quiet_of_same (broom_anyS (by first | exact HB9.out 0 | exact HB9.out _))))
            have HP9 : Hid (Bw w (w5.drewN nq) _ _ R room _) := HP5.out.still (below_drewC (Below.refl _ _) nq)
            go_wp2
            go_roundw
            case rel => exact ⟨j + 1, _, _, _, by omega, by go_num, rfl, HP9⟩
            case measure => simp [intOf]; omega
          · have HFL : Hid (room ≤ xs.length) := by unfold Hid; omega
            clear hfull
            go_wp2_with fail
            go_region_held3 (fun w' => w'.cell? ⟨wr.heap.size, 3, none⟩ = some (.string g.x)) (go_keep) (first
              | (go_at_call 18; refine (put_fullS (HBX.out.below (below_drewC (Below.refl _ wo) 1)) g.x HFL.out).mono ?_; rintro e w4 ⟨rfl, hb4, t4⟩; have hP4 := (HPO.out.still (below_drewC (Below.refl _ wo) 1)).still t4; obtain ⟨v4, hr4⟩ := hP4.rb; have ho4 : Ob w4 wr.heap.size g := Bk.below (w := wo.drew) HO.out t4 (Bk.lt HO.out); have s3 := Ob.x ho4)
              | (go_at_call 19; refine (rput_full hr4 g.x HFL.out).mono ?_; rintro e w5 ⟨rfl, k5, rfl⟩; have hP5 := hP4.still (below_drewC (Below.refl _ w4) k5); have ho5 : Ob (w4.drewN k5) wr.heap.size g := Bk.below ho4 (below_drewC (Below.refl _ w4) k5) (Bk.lt ho4); have s3 := Ob.x ho5))
            have HP5 : Hid (Bw w (w4.drewN k5) B c R room xs) := hP5
            clear hP5 ho5 hr4 hP4 ho4 hb4 t4 s3
            generalize w4.drewN k5 = w6 at HP5 ⊢
            obtain ⟨bs9, n9, p9, cp9, hn9, HB9, r0, r1⟩ := HP5.out.asks
            have HN9 : Hid (n9 = _) := hn9
            clear hn9
            go_wp2_with fail
            go_quiet (first
              | (go_at_call 23; refine Calls.quiet_of_same (blen_anyS (by first | exact HB9.out 0 | exact HB9.out _) n9 HN9.out))
              | (go_at_call 24; refine Calls.quiet_of_same (broom_anyS (by first | exact HB9.out 0 | exact HB9.out _))))
            have HP9 : Hid (Bw w (w6.drewN nq) _ _ R room _) := HP5.out.still (below_drewC (Below.refl _ _) nq)
            go_wp2
            go_roundw
            case rel => exact ⟨j + 1, _, _, _, by omega, by go_num, rfl, HP9⟩
            case measure => simp [intOf]; omega
        · by_cases h4 : g.dd = 4
          · rw [h4] at c0 d0 hwo
            cases xs with
            | nil =>
              obtain ⟨v3, hr3⟩ := HPO.out.rb
              have HR3 : Hid (Rb wo R room v3 []) := hr3
              clear hr3
              go_wp2_with fail
              refine (take_noneS HBX.out).mono ?_
              rintro e w4 ⟨rfl, rfl⟩
              go_wp2_with fail
              refine (rtake_none HR3.out).mono ?_
              rintro e w5 ⟨rfl, rfl⟩
              obtain ⟨bs9, n9, p9, cp9, hn9, HB9, r0, r1⟩ := HPO.out.asks
              have HN9 : Hid (n9 = _) := hn9
              clear hn9
              go_wp2_with fail
              go_quiet (first
                | (go_at_call 23; refine Calls.quiet_of_same (blen_anyS (by first | exact HB9.out 0 | exact HB9.out _) n9 HN9.out))
                | (go_at_call 24; refine Calls.quiet_of_same (broom_anyS (by first | exact HB9.out 0 | exact HB9.out _))))
              have HP9 : Hid (Bw w (w5.drewN nq) _ _ R room _) := HPO.out.still (below_drewC (Below.refl _ _) nq)
              go_wp2
              go_roundw
              case rel => exact ⟨j + 1, _, _, _, by omega, by go_num, rfl, HP9⟩
              case measure => simp [intOf]; omega
            | cons x xs =>
              obtain ⟨b1, bs1, rfl⟩ : ∃ b1 bs', bs = b1 :: bs' := by
                have hbl := HBX.out.len
                cases bs with
                | nil => simp at hbl
                | cons b1 bs' => exact ⟨b1, bs', rfl⟩
              go_wp2_with fail
              refine (take_anyS HBX.out).mono ?_
              rintro e w4 ⟨rfl, hb4, t4⟩
              obtain ⟨⟨v4, hr4⟩, hw4, hall4⟩ := HPO.out.both (k := 0) (Below.refl _ wo) t4 ⟨_, hb4⟩
              have HR4 : Hid (Rb w4 R room v4 (x :: xs)) := hr4
              have HA4 : Hid _ := hall4
              clear hr4 hw4 hall4 hb4 t4
              go_wp2_with fail
              refine (rtake_any HR4.out).mono ?_
              rintro e w5 ⟨rfl, hr5, t5⟩
              have HP5 : Hid (Bw w w5 B c R room xs) := HA4.out w5 t5 hr5
              have hq : (x.toList == x.toList) = true := by simp
              clear hr5 t5
              obtain ⟨bs9, n9, p9, cp9, hn9, HB9, r0, r1⟩ := HP5.out.asks
              have HN9 : Hid (n9 = _) := hn9
              clear hn9
              go_wp2_with fail
              go_quiet (first
                | (go_at_call 23; refine Calls.quiet_of_same (blen_anyS (by first | exact HB9.out 0 | exact HB9.out _) n9 HN9.out))
                | (go_at_call 24; refine Calls.quiet_of_same (broom_anyS (by first | exact HB9.out 0 | exact HB9.out _))))
              have HP9 : Hid (Bw w (w5.drewN nq) _ _ R room _) := HP5.out.still (below_drewC (Below.refl _ _) nq)
              go_wp2
              go_roundw
              case rel => exact ⟨j + 1, _, _, _, by omega, by go_num, rfl, HP9⟩
              case measure => simp [intOf]; omega
          · by_cases h2 : g.dd = 2
            · rw [h2] at c0 d0 hwo
              go_wp2_with fail
              refine (bclone_anyS HBX.out hr2).mono ?_
              rintro e w4 ⟨rfl, hb4, hb4', t4⟩
              have HB4 : Hid (BxS w4 B c room bs xs ∧ BxS w4 (wo.heap.size + 1) wo.heap.size room bs xs ∧ c ≠ wo.heap.size) := ⟨hb4, hb4', by have := HBX.out.ch.lt; omega⟩
              obtain ⟨v3, hr3⟩ := HPO.out.rb
              have HR4 : Hid (Rb w4 R room v3 xs ∧ Below w.heap.size w w4 ∧ w.heap.size ≤ wo.heap.size) := ⟨hr3.chan HBX.out.ch t4, HPO.out.below.trans (t4.below HPO.out.below.size (by simpa using HPO.out.lc)), HPO.out.below.size⟩
              have HO4 : Hid (Ob w4 wr.heap.size g) := HO.out.chan HBX.out.ch t4
              have d4 := HO4.out.x
              clear hb4 hb4' t4 hr3
              obtain ⟨B', hB'⟩ : ∃ B', wo.heap.size + 1 = B' := ⟨_, rfl⟩
              obtain ⟨c', hc'⟩ : ∃ c', wo.heap.size = c' := ⟨_, rfl⟩
              rw [hB', hc'] at HB4
              rw [hc'] at HR4
              rw [hB']
              clear hB' hc'
              -- the elder box is put to and taken from: nothing else turns
              have HPUT : Hid (Calls Try.prog 18 #[.pointer (some ⟨B, 0, none⟩), .string g.x] w4 fun e w' => ∃ n, e = .returned (.int .i64 n) ∧ (∃ bs' ys, BxS w' B c room bs' ys) ∧ Tn [c] w4 w') := by
                by_cases hfull : xs.length < room
                · refine (put_anyS HB4.out.1 g.x hfull).mono ?_
                  rintro e w5 ⟨rfl, ⟨b5, h5⟩, t5⟩
                  exact ⟨0, rfl, ⟨_, _, h5⟩, t5⟩
                · refine (put_fullS HB4.out.1 g.x (by omega)).mono ?_
                  rintro e w5 ⟨rfl, h5, t5⟩
                  exact ⟨5, rfl, ⟨_, _, h5⟩, Tn.of_below t5 _⟩
              go_wp2_with fail
              refine HPUT.out.mono ?_
              rintro e w5 ⟨n5, rfl, ⟨bs5, ys5, hb5⟩, t5⟩
              have HB5 : Hid (BxS w5 B c room bs5 ys5 ∧ BxS w5 B' c' room bs xs) := ⟨hb5, HB4.out.2.1.other HB4.out.1.ch HB4.out.2.2.symm t5⟩
              have HR5 : Hid (Rb w5 R room v3 xs ∧ Below w.heap.size w w5) := ⟨HR4.out.1.chan HB4.out.1.ch t5, HR4.out.2.1.trans (t5.below HR4.out.2.1.size (by simpa using HPO.out.lc))⟩
              clear hb5 t5 HPUT
              have HTAKE : Hid (Calls Try.prog 20 #[.pointer (some ⟨B, 0, none⟩)] w5 fun e w' => ∃ s n, e = .returned (.tuple #[.string s, .int .i64 n]) ∧ Tn [c] w5 w') := by
                have hx := HB5.out.1
                cases ys5 with
                | nil =>
                  refine (take_noneS hx).mono ?_
                  rintro e w6 ⟨rfl, rfl⟩
                  exact ⟨_, _, rfl, Tn.refl _ _⟩
                | cons y ys =>
                  have hbl := hx.len
                  cases bs5 with
                  | nil => simp at hbl
                  | cons b5 bs5 =>
                    refine (take_anyS hx).mono ?_
                    rintro e w6 ⟨rfl, _, t6⟩
                    exact ⟨_, _, rfl, t6⟩
              go_wp2_with fail
              refine HTAKE.out.mono ?_
              rintro e w6 ⟨s6, n6, rfl, t6⟩
              have HP6 : Hid (Bw w w6 B' c' R room xs) := ⟨⟨_, HB5.out.2.other HB5.out.1.ch HB4.out.2.2.symm t6⟩, ⟨_, HR5.out.1.chan HB5.out.1.ch t6⟩, HR4.out.2.2, HPO.out.lr, HR5.out.2.trans (t6.below HR5.out.2.size (by simpa using HPO.out.lc))⟩
              clear t6 HTAKE
              obtain ⟨bs9, n9, p9, cp9, hn9, HB9, r0, r1⟩ := HP6.out.asks
              have HN9 : Hid (n9 = _) := hn9
              clear hn9
              go_wp2_with fail
              go_quiet (first
                | (go_at_call 23; refine Calls.quiet_of_same (blen_anyS (by first | exact HB9.out 0 | exact HB9.out _) n9 HN9.out))
                | (go_at_call 24; refine Calls.quiet_of_same (broom_anyS (by first | exact HB9.out 0 | exact HB9.out _))))
              have HP9 : Hid (Bw w (w6.drewN nq) _ _ R room _) := HP6.out.still (below_drewC (Below.refl _ _) nq)
              go_wp2
              go_roundw
              case rel => exact ⟨j + 1, _, _, _, by omega, by go_num, rfl, HP9⟩
              case measure => simp [intOf]; omega
            · obtain ⟨bs9, n9, p9, cp9, hn9, HB9, r0, r1⟩ := HPO.out.asks
              have HN9 : Hid (n9 = _) := hn9
              clear hn9
              go_wp2_with fail
              go_quiet (first
                | (go_at_call 23; refine Calls.quiet_of_same (blen_anyS (by first | exact HB9.out 0 | exact HB9.out _) n9 HN9.out))
                | (go_at_call 24; refine Calls.quiet_of_same (broom_anyS (by first | exact HB9.out 0 | exact HB9.out _))))
              have HP9 : Hid (Bw w (wo.drewN nq) _ _ R room _) := HPO.out.still (below_drewC (Below.refl _ _) nq)
              go_wp2
              go_roundw
              case rel => exact ⟨j + 1, _, _, _, by omega, by go_num, rfl, HP9⟩
              case measure => simp [intOf]; omega
      · have hli : ¬ (j : Int) < (len : Int) := by omega
        obtain ⟨bs8, n8, p8, cp8, hn8, HB8, r0, r1⟩ := HP.out.asks
        have HN8 : Hid (n8 = xs.length ∧ n8 ≤ 4096) := ⟨hn8, by have := (HB8.out 0).fits; omega⟩
        have hn84 : n8 ≤ 4096 := HN8.out.2
        have HP8 : Hid (Bw w wr B c R room (xs.drop 0)) := HP.out
        clear hn8 HB8 HP
        go_wp2_with fail
        go_loopw [121] (fun iv wr => ∃ i : Nat, i ≤ n8 ∧ iv = .int .i64 i ∧ Hid (Bw w wr B c R room (xs.drop i))) (fun iv _ => n8 - (intOf iv).toNat)
        case atStart => exact ⟨0, Nat.zero_le _, rfl, HP8⟩
        case round =>
          obtain ⟨i, hi, rfl, HP⟩ := hrel
          by_cases hlt : i < n8
          · have hli : (i : Int) < (n8 : Int) := by omega
            have hil : i < xs.length := by have := HN8.out.1; omega
            have HPI : Hid (Bw w wr B c R room (xs[i] :: xs.drop (i + 1))) := by
              have := HP.out
              rw [List.drop_eq_getElem_cons hil] at this
              exact this
            generalize xs[i] = x at HPI
            obtain ⟨bs1, hb1⟩ := HPI.out.bx
            have hbl := hb1.len
            obtain ⟨b1, bs1, rfl⟩ : ∃ b1 bs', bs1 = b1 :: bs' := by
              cases bs1 with
              | nil => simp at hbl
              | cons b1 bs' => exact ⟨b1, bs', rfl⟩
            have HB1 : Hid (BxS wr B c room (b1 :: bs1) (x :: xs.drop (i + 1))) := hb1
            clear hb1 hbl HP r0 r1
            go_wp2_with fail
            refine (take_anyS HB1.out).mono ?_
            rintro e w4 ⟨rfl, hb4, t4⟩
            obtain ⟨⟨v4, hr4⟩, hw4, hall4⟩ := HPI.out.both (k := 0) (Below.refl _ wr) t4 ⟨_, hb4⟩
            have HR4 : Hid (Rb w4 R room v4 (x :: xs.drop (i + 1))) := hr4
            have HA4 : Hid _ := hall4
            clear hr4 hw4 hall4 hb4 t4
            go_wp2_with fail
            refine (rtake_any HR4.out).mono ?_
            rintro e w5 ⟨rfl, hr5, t5⟩
            have HP5 : Hid (Bw w w5 B c R room (xs.drop (i + 1))) := HA4.out w5 t5 hr5
            have hq : (x.toList == x.toList) = true := by simp
            clear hr5 t5
            go_wp2
            go_roundw
            case rel => exact ⟨i + 1, by omega, by go_num, HP5⟩
            case measure => simp [intOf]; omega
          · have hli : ¬ (i : Int) < (n8 : Int) := by omega
            have HPE : Hid (Bw w wr B c R room []) := by
              have := HP.out
              rw [List.drop_eq_nil_of_le (by have := HN8.out.1; omega)] at this
              exact this
            obtain ⟨bs1, hb1⟩ := HPE.out.bx
            have HB1 : Hid (BxS wr B c room bs1 []) := hb1
            clear hb1 HP
            go_wp2_with fail
            refine (blen_anyS HB1.out 0 rfl).mono ?_
            rintro e w4 ⟨rfl, rfl⟩
            go_wp2
            go_ret
            exact ⟨rfl, HPE.out.below⟩

set_option maxRecDepth 100000 in
set_option maxHeartbeats 2000000 in
theorem lifted_cellsBox (os : Os) (started : os.Started) (H : Type) (enc : TypeId × Value → H) :
    ReturnsInHanded {} Try.checked os 4 .any (Rows.cellsBoxSpec.pre6 enc Try.prog Try.f4 Rows.cellsBoxRow.domain false) (Rows.cellsBoxSpec.post enc Try.prog Try.f4 false true false false) := by
  refine returnsInHanded_of_change_sized (C := Try.checked) own started (by kernel_rfl) Try.func4
    (ChangeSpec.witness6 (enc := enc) (C := Try.checked) false ⟨#[], #[.int .i64 0, .slice none 0 0], []⟩ 8 (by kernel_rfl) (by kernel_rfl) (by kernel_rfl) (by kernel_rfl)) ?_
  intro W base args ds gs before hval0 hW _ hsz0 _
  have hsz : (DataW.weightsEach Try.prog (Try.f4.params.toList ++ Rows.cellsBoxSpec.plain.varTypes Try.prog) (ds ++ gs)).all (· ≤ reachBytes) = true := hsz0
  clear hsz0
  have hval : ∀ (j : Nat) t v, Try.f4.params[j]? = some t → args[j]? = some v → Value.okWide Try.prog W .any base t v := hval0
  have hW' := hW
  obtain ⟨p, q, hA0, hV, rfl, hfz, hnd⟩ := hW
  have hA : DataW.TrodAll enc Try.prog W 0 (fun _ => true) true Try.f4.params.toList args.toList ds p := hA0
  rw [Try.params4] at hA hval hsz
  obtain ⟨v0, vs0, d0, ds0, p0, q0, hargs, rfl, rfl, h0, r0⟩ := trodAll_cons hA
  obtain ⟨v1, vs1, d1, ds1, p1, q1, rfl, rfl, rfl, h1, r1⟩ := trodAll_cons r0
  obtain ⟨rfl, rfl, rfl⟩ := trodAll_nil r1
  obtain rfl : args = #[v0, v1] := by cases args; simp_all
  obtain ⟨rfl, rfl⟩ := trodVars_none hV
  obtain ⟨a0, rfl, rfl, rfl, w0⟩ := open_int Try.underlying3 (hval 0 3 v0 rfl rfl) h0
  obtain ⟨a1, len1, cap1, rfl⟩ := okWide_slice Try.underlying22 (hval 1 22 v1 rfl rfl)
  have k1 := h1
  have lt1 : ∀ x ∈ p1, x.block < W.heap.size := by obtain ⟨m, hm⟩ := k1; exact DataW.trod_lt m _ _ _ hm
  obtain ⟨z1, w1⟩ : ∃ l, InC W a1 len1 cap1 l := by
    refine in_cops h1 fun n hn => ?_
    have := of_decide_eq_true (List.all_eq_true.1 hsz _ (DataW.weights_mem_each (j := 1) (t := 22) rfl rfl n hn))
    simp only [reachBytes] at this
    omega
  clear hA0 hval0
  refine (walk_cellsBox a0 a1 len1 cap1 z1 W w0 w1).mono fun e W' ⟨he, bel⟩ => ?_
  subst he
  exact ⟨_, rfl, _, _, _, [], _, [], hW', trodAll_mk1 (shut_bool Try.underlying4 _), (trodAll_cons_mk (shut_int Try.underlying3 w0) (trodAll_cons_mk (Below.trod laidOut (by kernel_rfl) (of_decide_eq_true (by kernel_rfl)) k1 bel lt1) trodAll_mk0)), rfl, bel.frame _, fun h => by cases h⟩

/-- The statement. -/
theorem cellsBox_holds : Rows.CellsBoxSaid :=
  OpenClaim.holds_of_wide 4 Try.f4 rfl rfl rfl rfl rfl rfl rfl ⟨rfl, rfl, rfl, rfl, rfl⟩ rfl rfl rfl rfl rfl (by kernel_rfl) Try.func4 (by kernel_rfl)
    (of_decide_eq_true (by kernel_rfl)) (by unfold Func.isWrapper; first | (rw [if_pos (by decide +kernel)]; kernel_rfl) | (rw [if_neg (by decide +kernel)]; exact ⟨rfl, rfl⟩))
    (fun os started H enc _ => lifted_cellsBox os started H enc)
#print axioms cellsBox_holds
end Go.Proofs.Ytjfmilfplidepaa
