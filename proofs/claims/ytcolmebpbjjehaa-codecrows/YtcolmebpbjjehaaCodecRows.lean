/- The bytes of two rows of as many ints have the order of the rows, by the first place at which they part. -/
import Derived.Test.YtcolmebpbjjehaaRowsM
import Derived.Deep.RegionHeld3
import Derived.Deep.QuietTactic
import Derived.BigQuiet
namespace Go.Proofs.Ytcolmebpbjjehaa
open Go.ChangeShapes Go.WideShapes Go.ChangeAt Go.RowKit
open Go.ChangeMaps (open_string shut_string)
set_option linter.unusedVariables false

theorem encs_byte (l : List Int) (h : ∀ y ∈ l, -9223372036854775808 ≤ y ∧ y ≤ 9223372036854775807) : ∀ y ∈ Cd.encs l, 0 ≤ y ∧ y < 256 := by
  induction l with
  | nil => intro y hy; simp [Cd.encs] at hy
  | cons a l ih =>
    rw [Cd.encs_cons]
    exact app_byte (enc_byte a (h a (by simp)).1 (h a (by simp)).2) (ih fun y hy => h y (by simp [hy]))

/-- What stands behind k rounds. -/
structure Rnd (w wr : World) (xs ys : List Int) (k : Nat) (vx vy : Value) (n1 n2 : Nat) (z : Int) : Prop where
  x : Own wr w.heap.size vx n1 (Cd.encs (xs.take k))
  y : Own wr w.heap.size vy n2 (Cd.encs (ys.take k))
  s1 : n1 ≤ 9 * k
  s2 : n2 ≤ 9 * k
  want : z = Cd.lex (xs.take k) (ys.take k)
  below : Below w.heap.size w wr

theorem int_at {w : World} {p : Option Addr} {len cap B k : Nat} {xs : List Int} (h : InI B w p len cap xs) (hk : k < len) : ∃ b o x, p = some ⟨b, o, none⟩ ∧ w.cell? ⟨b, o + k, none⟩ = some (.int .i64 x) ∧ xs.take (k + 1) = xs.take k ++ [x] ∧ -9223372036854775808 ≤ x ∧ x ≤ 9223372036854775807 := by
  have hl := h.lenq
  obtain ⟨b, o, hp, hc⟩ := h.its (by omega)
  refine ⟨b, o, xs.getD k 0, hp, hc k (by omega), Cd.take_snoc xs k (by omega), ?_⟩
  have := h.fits xs[k] (List.getElem_mem (by omega))
  simpa [List.getD, show k < xs.length by omega] using this

set_option maxHeartbeats 4000000 in
theorem walk_codecRows (p : Option Addr) (len cap : Nat) (xs : List Int) (q : Option Addr) (m d : Nat) (ys : List Int) (w : World) (hin : InI 17592186043904 w p len cap xs) (hin2 : InI 17592186043904 w q m d ys) :
    Calls Try.prog 6 #[.slice p len cap, .slice q m d] w fun e w' => e = .returned (.bool true) ∧ Below w.heap.size w w' := by
  have HI : Hid (InI 17592186043904 w p len cap xs) := hin
  have HJ : Hid (InI 17592186043904 w q m d ys) := hin2
  have hle := hin.le
  have hcap := hin.room
  have hle2 := hin2.le
  have hcap2 := hin2.room
  clear hin hin2
  by_cases hmm : m < len
  · go_enter Try.func6, Try.ntmps6
    go_wp2_with fail
    go_loopw [5, 6, 7, 14] (fun vx vy z i wr => ∃ (k n1 n2 : Nat) (zz : Int), k ≤ m ∧ i = .int .i64 k ∧ z = .int .i64 zz ∧ Hid (Rnd w wr xs ys k vx vy n1 n2 zz)) (fun _ _ _ i _ => m - (intOf i).toNat)
    case atStart => exact ⟨0, 0, 0, 0, Nat.zero_le _, rfl, rfl, ⟨World.ownsRow_nil _ _ _ _, World.ownsRow_nil _ _ _ _, Nat.le_refl _, Nat.le_refl _, rfl, Below.refl _ _⟩⟩
    case round =>
      obtain ⟨k, n1, n2, z, hk, rfl, rfl, hr⟩ := hrel
      by_cases hlt : k < m
      · have hn1 := hr.out.s1
        have hn2 := hr.out.s2
        obtain ⟨b1, o1, x, rfl, hcx, htx, hx0, hx1⟩ := int_at (HI.out.below hr.out.below) (show k < len by omega)
        obtain ⟨b2, o2, y, rfl, hcy, hty, hy0, hy1⟩ := int_at (HJ.out.below hr.out.below) (show k < m by omega)
        have HTX : Hid _ := htx
        have HTY : Hid _ := hty
        have HCX : Hid (wr.cell? ⟨b1, o1 + k, none⟩ = some (.int .i64 x)) := hcx
        have HCY : Hid (wr.cell? ⟨b2, o2 + k, none⟩ = some (.int .i64 y)) := hcy
        clear htx hty
        obtain ⟨px, cx, hvx, hcx1, hpx, hbyx⟩ := hr.out.x.bys
        subst hvx
        obtain ⟨py, cy, hvy, hcy1, hpy, hbyy⟩ := hr.out.y.bys
        subst hvy
        have HBX : Hid (Bys wr px (Cd.encs (xs.take k))) := hbyx
        have HBY : Hid (Bys wr py (Cd.encs (ys.take k))) := hbyy
        have HPX : Hid _ := hpx
        have HPY : Hid _ := hpy
        have HLX : Hid _ := hr.out.x.len
        have HLY : Hid _ := hr.out.y.len
        clear hbyx hbyy hpx hpy
        have hd1 : decide ((len : Int) ≤ (k : Int)) = false := by simp; omega
        have hd2 : decide ((m : Int) ≤ (k : Int)) = false := by simp; omega
        have hd3 : decide (len ≤ k) = false := by simp; omega
        have hd4 : decide (m ≤ k) = false := by simp; omega
        have hd5 : k < len := by omega
        have hd6 : k < m := by omega
        have HREL : Hid (∀ wn v2 v3 zz, Own wn w.heap.size v2 (n1 + Cd.width x) (Cd.encs (xs.take k) ++ Cd.enc x) → Own wn w.heap.size v3 (n2 + Cd.width y) (Cd.encs (ys.take k) ++ Cd.enc y) → zz = (if z = 0 then Cd.cmp x y else z) → Below w.heap.size w wn → Rnd w wn xs ys (k + 1) v2 v3 (n1 + Cd.width x) (n2 + Cd.width y) zz) := by
          intro wn v2 v3 zz h2 h3 h4 h5
          have wx := Cd.width_pos x
          have wy := Cd.width_pos y
          refine ⟨by rw [HTX.out, Cd.encs_snoc]; exact h2, by rw [HTY.out, Cd.encs_snoc]; exact h3, by omega, by omega, ?_, h5⟩
          have hlx := HI.out.lenq
          have hly := HJ.out.lenq
          rw [HTX.out, HTY.out, Cd.lex_snoc _ _ _ _ (by rw [List.length_take, List.length_take]; omega), ← hr.out.want]
          exact h4
        have HSZ : Hid (w.heap.size ≤ wr.heap.size) := hr.out.below.size
        have HBW : Hid (Below w.heap.size w wr) := hr.out.below
        have hbd : Below wr.heap.size wr wr.drew := (Below.refl _ _).drew
        have HBX1 : Hid (Bys wr.drew px (Cd.encs (xs.take k))) := HBX.out.below hbd (Nat.le_refl _)
        have HBY1 : Hid (Bys wr.drew py (Cd.encs (ys.take k))) := HBY.out.below hbd (Nat.le_refl _)
        have HII : Hid (InI 17592186043904 wr.drew (some ⟨b1, o1, none⟩) len cap xs) := (HI.out.below HBW.out).below hbd
        have HJJ : Hid (InI 17592186043904 wr.drew (some ⟨b2, o2, none⟩) m d ys) := (HJ.out.below HBW.out).below hbd
        have HC1 : Hid (∀ w', Below wr.heap.size wr w' → w'.cell? ⟨b1, o1 + k, none⟩ = some (.int .i64 x) ∧ w'.cell? ⟨b2, o2 + k, none⟩ = some (.int .i64 y)) := by
          intro w' hb'
          refine ⟨?_, ?_⟩
          · rw [hb'.cell (p := ⟨b1, o1 + k, none⟩) (World.block_lt_of_cell? wr _ HCX.out)]; exact HCX.out
          · rw [hb'.cell (p := ⟨b2, o2 + k, none⟩) (World.block_lt_of_cell? wr _ HCY.out)]; exact HCY.out
        clear hr
        go_wp2_with fail
        go_region_held3 (fun w' => w'.cell? ⟨b1, o1 + k, none⟩ = some (.int .i64 x) ∧ w'.cell? ⟨b2, o2 + k, none⟩ = some (.int .i64 y)) (go_keep) (first
          | (go_at_call_of 14 (Value.slice px n1 cx); refine (putInt_own px cx n1 (Cd.encs (xs.take k)) x _ HLX.out HBX1.out (by omega) HPX.out hx0 hx1).mono ?_; rintro e w2 ⟨v2, rfl, HO2, hb2⟩; have hb02 : Below wr.heap.size wr w2 := hbd.trans (hb2.mono (by simp)); have hk2 := HC1.out w2 hb02)
          | (go_at_call_of 14 (Value.slice py n2 cy); refine (putInt_own py cy n2 (Cd.encs (ys.take k)) y _ HLY.out (HBY1.out.below hb2 (by simp)) (by omega) HPY.out hy0 hy1).mono ?_; rintro e w3 ⟨v3, rfl, HO3, hb3⟩; have hb03 : Below wr.heap.size wr w3 := hb02.trans (hb3.mono hb02.size); have hk3 := HC1.out w3 hb03))
        have OX3 : Own w3 w.heap.size v2 (n1 + Cd.width x) (Cd.encs (xs.take k) ++ Cd.enc x) := (HO2.below hb3 (Nat.le_refl _)).mono (by simpa using HSZ.out)
        have OY3 : Own w3 w.heap.size v3 (n2 + Cd.width y) (Cd.encs (ys.take k) ++ Cd.enc y) := HO3.mono (Nat.le_trans HSZ.out hb02.size)
        have hB3 : Below w.heap.size w w3 := HBW.out.trans (hb03.mono HSZ.out)
        have HOX3 : Hid _ := OX3
        have HOY3 : Hid _ := OY3
        obtain ⟨hk3a, hk3b⟩ := hk3
        clear HO2 HO3 hb2 hb3 hk2 HBX1 HBY1 HBX HBY HII HJJ HC1 hcx hcy hbd HTX HTY HPX HPY HLX HLY OX3 OY3 hb02 hb03
        by_cases hz : z = 0
        · have hzb : (z == 0) = true := by simpa using hz
          have HE : Hid (Cd.cmp x y = if z = 0 then Cd.cmp x y else z) := by rw [Hid, if_pos hz]
          have hbd2 : Below w3.heap.size w3 w3.drew := (Below.refl _ _).drew
          clear hz
          go_wp2_with fail
          go_region_held3 (fun w' => w'.cell? ⟨b1, o1 + k, none⟩ = some (.int .i64 x) ∧ w'.cell? ⟨b2, o2 + k, none⟩ = some (.int .i64 y)) (go_keep) (first
            | (go_at_call 25; refine (cmp_any x y _).mono ?_; rintro e w4 ⟨rfl, rfl⟩))
          have hB4 := hB3.trans (hbd2.mono hB3.size)
          have HR : Hid _ := HREL.out _ _ _ _ (Own.below HOX3.out hbd2 (Nat.le_refl _)) (Own.below HOY3.out hbd2 (Nat.le_refl _)) HE.out hB4
          clear HREL HOX3 HOY3 hbd2 hB3 hB4
          go_wp2
          go_roundw
          case rel => exact ⟨k + 1, _, _, _, by omega, by go_num, rfl, HR⟩
          case measure => simp [intOf]; omega
        · have hzb : (z == 0) = false := by simpa using hz
          have HR : Hid _ := HREL.out _ _ _ z HOX3.out HOY3.out (by rw [if_neg hz]) hB3
          clear HREL HOX3 HOY3 hB3 hz
          go_wp2
          go_roundw
          case rel => exact ⟨k + 1, _, _, _, by omega, by go_num, rfl, HR⟩
          case measure => simp [intOf]; omega
      · obtain rfl : k = m := by omega
        have HB : Hid (Below w.heap.size w wr) := hr.out.below
        have HX : Hid _ := hr.out.x
        have HY : Hid _ := hr.out.y
        have HL : Hid (z = Cd.lex (Cd.encs (xs.take k)) (Cd.encs (ys.take k))) := by
          have hlx := HI.out.lenq
          have hly := HJ.out.lenq
          rw [Hid, hr.out.want, Cd.lex_encs _ _ (by rw [List.length_take, List.length_take]; omega) (fun y hy => HI.out.fits y (List.mem_of_mem_take hy)) (fun y hy => HJ.out.fits y (List.mem_of_mem_take hy))]
        have HX1 : Hid (∀ y ∈ Cd.encs (xs.take k), 0 ≤ y ∧ y < 256) := encs_byte _ (fun y hy => HI.out.fits y (List.mem_of_mem_take hy))
        have HY1 : Hid (∀ y ∈ Cd.encs (ys.take k), 0 ≤ y ∧ y < 256) := encs_byte _ (fun y hy => HJ.out.fits y (List.mem_of_mem_take hy))
        clear hr hlt hk
        go_wp2_with fail
        refine (live_any _).mono ?_
        rintro e w2 ⟨rfl, hb2⟩
        have hB2 := HB.out.trans (hb2.mono HB.out.size)
        have OX2 := Own.below HX.out hb2 (Nat.le_refl _)
        have OY2 := Own.below HY.out hb2 (Nat.le_refl _)
        obtain ⟨px, cx, hvx, hcx1, hpx, hbyx⟩ := OX2.bys
        subst hvx
        obtain ⟨py, cy, hvy, hcy1, hpy, hbyy⟩ := OY2.bys
        subst hvy
        have HBX : Hid _ := hbyx
        have HBY : Hid _ := hbyy
        have HPX : Hid _ := hpx
        have HPY : Hid _ := hpy
        have HLX : Hid _ := OX2.len
        have HLY : Hid _ := OY2.len
        clear hbyx hbyy hpx hpy OX2 OY2 hb2
        go_wp2_with fail
        refine (compare_any px py cx cy _ _ _ _ _ HLX.out HLY.out HBX.out HBY.out HPX.out HPY.out HX1.out HY1.out).mono ?_
        rintro e w5 ⟨rfl, hw5⟩
        subst hw5
        rw [← HL.out]
        have hzz : (z == z) = true := by simp
        go_wp2
        go_ret
        exact ⟨rfl, hB2⟩
  · go_enter Try.func6, Try.ntmps6
    go_wp2_with fail
    go_loopw [5, 6, 7, 14] (fun vx vy z i wr => ∃ (k n1 n2 : Nat) (zz : Int), k ≤ len ∧ i = .int .i64 k ∧ z = .int .i64 zz ∧ Hid (Rnd w wr xs ys k vx vy n1 n2 zz)) (fun _ _ _ i _ => len - (intOf i).toNat)
    case atStart => exact ⟨0, 0, 0, 0, Nat.zero_le _, rfl, rfl, ⟨World.ownsRow_nil _ _ _ _, World.ownsRow_nil _ _ _ _, Nat.le_refl _, Nat.le_refl _, rfl, Below.refl _ _⟩⟩
    case round =>
      obtain ⟨k, n1, n2, z, hk, rfl, rfl, hr⟩ := hrel
      by_cases hlt : k < len
      · have hn1 := hr.out.s1
        have hn2 := hr.out.s2
        obtain ⟨b1, o1, x, rfl, hcx, htx, hx0, hx1⟩ := int_at (HI.out.below hr.out.below) (show k < len by omega)
        obtain ⟨b2, o2, y, rfl, hcy, hty, hy0, hy1⟩ := int_at (HJ.out.below hr.out.below) (show k < m by omega)
        have HTX : Hid _ := htx
        have HTY : Hid _ := hty
        have HCX : Hid (wr.cell? ⟨b1, o1 + k, none⟩ = some (.int .i64 x)) := hcx
        have HCY : Hid (wr.cell? ⟨b2, o2 + k, none⟩ = some (.int .i64 y)) := hcy
        clear htx hty
        obtain ⟨px, cx, hvx, hcx1, hpx, hbyx⟩ := hr.out.x.bys
        subst hvx
        obtain ⟨py, cy, hvy, hcy1, hpy, hbyy⟩ := hr.out.y.bys
        subst hvy
        have HBX : Hid (Bys wr px (Cd.encs (xs.take k))) := hbyx
        have HBY : Hid (Bys wr py (Cd.encs (ys.take k))) := hbyy
        have HPX : Hid _ := hpx
        have HPY : Hid _ := hpy
        have HLX : Hid _ := hr.out.x.len
        have HLY : Hid _ := hr.out.y.len
        clear hbyx hbyy hpx hpy
        have hd1 : decide ((len : Int) ≤ (k : Int)) = false := by simp; omega
        have hd2 : decide ((m : Int) ≤ (k : Int)) = false := by simp; omega
        have hd3 : decide (len ≤ k) = false := by simp; omega
        have hd4 : decide (m ≤ k) = false := by simp; omega
        have hd5 : k < len := by omega
        have hd6 : k < m := by omega
        have HREL : Hid (∀ wn v2 v3 zz, Own wn w.heap.size v2 (n1 + Cd.width x) (Cd.encs (xs.take k) ++ Cd.enc x) → Own wn w.heap.size v3 (n2 + Cd.width y) (Cd.encs (ys.take k) ++ Cd.enc y) → zz = (if z = 0 then Cd.cmp x y else z) → Below w.heap.size w wn → Rnd w wn xs ys (k + 1) v2 v3 (n1 + Cd.width x) (n2 + Cd.width y) zz) := by
          intro wn v2 v3 zz h2 h3 h4 h5
          have wx := Cd.width_pos x
          have wy := Cd.width_pos y
          refine ⟨by rw [HTX.out, Cd.encs_snoc]; exact h2, by rw [HTY.out, Cd.encs_snoc]; exact h3, by omega, by omega, ?_, h5⟩
          have hlx := HI.out.lenq
          have hly := HJ.out.lenq
          rw [HTX.out, HTY.out, Cd.lex_snoc _ _ _ _ (by rw [List.length_take, List.length_take]; omega), ← hr.out.want]
          exact h4
        have HSZ : Hid (w.heap.size ≤ wr.heap.size) := hr.out.below.size
        have HBW : Hid (Below w.heap.size w wr) := hr.out.below
        have hbd : Below wr.heap.size wr wr.drew := (Below.refl _ _).drew
        have HBX1 : Hid (Bys wr.drew px (Cd.encs (xs.take k))) := HBX.out.below hbd (Nat.le_refl _)
        have HBY1 : Hid (Bys wr.drew py (Cd.encs (ys.take k))) := HBY.out.below hbd (Nat.le_refl _)
        have HII : Hid (InI 17592186043904 wr.drew (some ⟨b1, o1, none⟩) len cap xs) := (HI.out.below HBW.out).below hbd
        have HJJ : Hid (InI 17592186043904 wr.drew (some ⟨b2, o2, none⟩) m d ys) := (HJ.out.below HBW.out).below hbd
        have HC1 : Hid (∀ w', Below wr.heap.size wr w' → w'.cell? ⟨b1, o1 + k, none⟩ = some (.int .i64 x) ∧ w'.cell? ⟨b2, o2 + k, none⟩ = some (.int .i64 y)) := by
          intro w' hb'
          refine ⟨?_, ?_⟩
          · rw [hb'.cell (p := ⟨b1, o1 + k, none⟩) (World.block_lt_of_cell? wr _ HCX.out)]; exact HCX.out
          · rw [hb'.cell (p := ⟨b2, o2 + k, none⟩) (World.block_lt_of_cell? wr _ HCY.out)]; exact HCY.out
        clear hr
        go_wp2_with fail
        go_region_held3 (fun w' => w'.cell? ⟨b1, o1 + k, none⟩ = some (.int .i64 x) ∧ w'.cell? ⟨b2, o2 + k, none⟩ = some (.int .i64 y)) (go_keep) (first
          | (go_at_call_of 14 (Value.slice px n1 cx); refine (putInt_own px cx n1 (Cd.encs (xs.take k)) x _ HLX.out HBX1.out (by omega) HPX.out hx0 hx1).mono ?_; rintro e w2 ⟨v2, rfl, HO2, hb2⟩; have hb02 : Below wr.heap.size wr w2 := hbd.trans (hb2.mono (by simp)); have hk2 := HC1.out w2 hb02)
          | (go_at_call_of 14 (Value.slice py n2 cy); refine (putInt_own py cy n2 (Cd.encs (ys.take k)) y _ HLY.out (HBY1.out.below hb2 (by simp)) (by omega) HPY.out hy0 hy1).mono ?_; rintro e w3 ⟨v3, rfl, HO3, hb3⟩; have hb03 : Below wr.heap.size wr w3 := hb02.trans (hb3.mono hb02.size); have hk3 := HC1.out w3 hb03))
        have OX3 : Own w3 w.heap.size v2 (n1 + Cd.width x) (Cd.encs (xs.take k) ++ Cd.enc x) := (HO2.below hb3 (Nat.le_refl _)).mono (by simpa using HSZ.out)
        have OY3 : Own w3 w.heap.size v3 (n2 + Cd.width y) (Cd.encs (ys.take k) ++ Cd.enc y) := HO3.mono (Nat.le_trans HSZ.out hb02.size)
        have hB3 : Below w.heap.size w w3 := HBW.out.trans (hb03.mono HSZ.out)
        have HOX3 : Hid _ := OX3
        have HOY3 : Hid _ := OY3
        obtain ⟨hk3a, hk3b⟩ := hk3
        clear HO2 HO3 hb2 hb3 hk2 HBX1 HBY1 HBX HBY HII HJJ HC1 hcx hcy hbd HTX HTY HPX HPY HLX HLY OX3 OY3 hb02 hb03
        by_cases hz : z = 0
        · have hzb : (z == 0) = true := by simpa using hz
          have HE : Hid (Cd.cmp x y = if z = 0 then Cd.cmp x y else z) := by rw [Hid, if_pos hz]
          have hbd2 : Below w3.heap.size w3 w3.drew := (Below.refl _ _).drew
          clear hz
          go_wp2_with fail
          go_region_held3 (fun w' => w'.cell? ⟨b1, o1 + k, none⟩ = some (.int .i64 x) ∧ w'.cell? ⟨b2, o2 + k, none⟩ = some (.int .i64 y)) (go_keep) (first
            | (go_at_call 25; refine (cmp_any x y _).mono ?_; rintro e w4 ⟨rfl, rfl⟩))
          have hB4 := hB3.trans (hbd2.mono hB3.size)
          have HR : Hid _ := HREL.out _ _ _ _ (Own.below HOX3.out hbd2 (Nat.le_refl _)) (Own.below HOY3.out hbd2 (Nat.le_refl _)) HE.out hB4
          clear HREL HOX3 HOY3 hbd2 hB3 hB4
          go_wp2
          go_roundw
          case rel => exact ⟨k + 1, _, _, _, by omega, by go_num, rfl, HR⟩
          case measure => simp [intOf]; omega
        · have hzb : (z == 0) = false := by simpa using hz
          have HR : Hid _ := HREL.out _ _ _ z HOX3.out HOY3.out (by rw [if_neg hz]) hB3
          clear HREL HOX3 HOY3 hB3 hz
          go_wp2
          go_roundw
          case rel => exact ⟨k + 1, _, _, _, by omega, by go_num, rfl, HR⟩
          case measure => simp [intOf]; omega
      · obtain rfl : k = len := by omega
        have HB : Hid (Below w.heap.size w wr) := hr.out.below
        have HX : Hid _ := hr.out.x
        have HY : Hid _ := hr.out.y
        have HL : Hid (z = Cd.lex (Cd.encs (xs.take k)) (Cd.encs (ys.take k))) := by
          have hlx := HI.out.lenq
          have hly := HJ.out.lenq
          rw [Hid, hr.out.want, Cd.lex_encs _ _ (by rw [List.length_take, List.length_take]; omega) (fun y hy => HI.out.fits y (List.mem_of_mem_take hy)) (fun y hy => HJ.out.fits y (List.mem_of_mem_take hy))]
        have HX1 : Hid (∀ y ∈ Cd.encs (xs.take k), 0 ≤ y ∧ y < 256) := encs_byte _ (fun y hy => HI.out.fits y (List.mem_of_mem_take hy))
        have HY1 : Hid (∀ y ∈ Cd.encs (ys.take k), 0 ≤ y ∧ y < 256) := encs_byte _ (fun y hy => HJ.out.fits y (List.mem_of_mem_take hy))
        clear hr hlt hk
        go_wp2_with fail
        refine (live_any _).mono ?_
        rintro e w2 ⟨rfl, hb2⟩
        have hB2 := HB.out.trans (hb2.mono HB.out.size)
        have OX2 := Own.below HX.out hb2 (Nat.le_refl _)
        have OY2 := Own.below HY.out hb2 (Nat.le_refl _)
        obtain ⟨px, cx, hvx, hcx1, hpx, hbyx⟩ := OX2.bys
        subst hvx
        obtain ⟨py, cy, hvy, hcy1, hpy, hbyy⟩ := OY2.bys
        subst hvy
        have HBX : Hid _ := hbyx
        have HBY : Hid _ := hbyy
        have HPX : Hid _ := hpx
        have HPY : Hid _ := hpy
        have HLX : Hid _ := OX2.len
        have HLY : Hid _ := OY2.len
        clear hbyx hbyy hpx hpy OX2 OY2 hb2
        go_wp2_with fail
        refine (compare_any px py cx cy _ _ _ _ _ HLX.out HLY.out HBX.out HBY.out HPX.out HPY.out HX1.out HY1.out).mono ?_
        rintro e w5 ⟨rfl, hw5⟩
        subst hw5
        rw [← HL.out]
        have hzz : (z == z) = true := by simp
        go_wp2
        go_ret
        exact ⟨rfl, hB2⟩

set_option maxRecDepth 100000 in
theorem lifted_codecRows (os : Os) (started : os.Started) (H : Type) (enc : TypeId × Value → H) :
    ReturnsInHanded {} Try.checked os 6 .any (Rows.codecRowsSpec.pre6 enc Try.prog Try.f6 Rows.codecRowsRow.domain false) (Rows.codecRowsSpec.post enc Try.prog Try.f6 false true false false) := by
  refine returnsInHanded_of_change_sized (C := Try.checked) own started (by kernel_rfl) Try.func6
    (ChangeSpec.witness6 (enc := enc) (C := Try.checked) false ⟨#[], #[.slice none 0 0, .slice none 0 0], []⟩ 8 (by kernel_rfl) (by kernel_rfl) (by kernel_rfl) (by kernel_rfl)) ?_
  intro W base args ds gs before hval0 hW _ hsz0 _
  have hsz : (DataW.weightsEach Try.prog (Try.f6.params.toList ++ Rows.codecRowsSpec.plain.varTypes Try.prog) (ds ++ gs)).all (· ≤ reachBytes) = true := hsz0
  clear hsz0
  have hval : ∀ (j : Nat) t v, Try.f6.params[j]? = some t → args[j]? = some v → Value.okWide Try.prog W .any base t v := hval0
  have hW' := hW
  obtain ⟨p, q, hA0, hV, rfl, hfz, hnd⟩ := hW
  have hA : DataW.TrodAll enc Try.prog W 0 (fun _ => true) true Try.f6.params.toList args.toList ds p := hA0
  rw [Try.params6] at hA hval hsz
  obtain ⟨v0, vs0, d0, ds0, p0, q0, hargs, rfl, rfl, h0, r0⟩ := trodAll_cons hA
  obtain ⟨v1, vs1, d1, ds1, p1, q1, rfl, rfl, rfl, h1, r1⟩ := trodAll_cons r0
  obtain ⟨rfl, rfl, rfl⟩ := trodAll_nil r1
  obtain rfl : args = #[v0, v1] := by cases args; simp_all
  obtain ⟨rfl, rfl⟩ := trodVars_none hV
  obtain ⟨a0, len0, cap0, rfl⟩ := okWide_slice Try.underlying47 (hval 0 47 v0 rfl rfl)
  have k0 := h0
  have lt0 : ∀ x ∈ p0, x.block < W.heap.size := by obtain ⟨m, hm⟩ := k0; exact DataW.trod_lt m _ _ _ hm
  obtain ⟨z0, w0⟩ : ∃ zs, InI 17592186043904 W a0 len0 cap0 zs := by
    refine in_ints h0 ?_
    intro elems spare hd
    have := sized_slice hsz (j := 0) (t := 47) (e := 2) rfl (by rw [hd]; rfl) Try.underlying47
    rw [bytes_i64] at this
    simp only [reachBytes] at this
    omega
  obtain ⟨a1, len1, cap1, rfl⟩ := okWide_slice Try.underlying47 (hval 1 47 v1 rfl rfl)
  have k1 := h1
  have lt1 : ∀ x ∈ p1, x.block < W.heap.size := by obtain ⟨m, hm⟩ := k1; exact DataW.trod_lt m _ _ _ hm
  obtain ⟨z1, w1⟩ : ∃ zs, InI 17592186043904 W a1 len1 cap1 zs := by
    refine in_ints h1 ?_
    intro elems spare hd
    have := sized_slice hsz (j := 1) (t := 47) (e := 2) rfl (by rw [hd]; rfl) Try.underlying47
    rw [bytes_i64] at this
    simp only [reachBytes] at this
    omega
  clear hA0 hval0
  refine (walk_codecRows a0 len0 cap0 z0 a1 len1 cap1 z1 W w0 w1).mono fun e W' ⟨he, bel⟩ => ?_
  subst he
  exact ⟨_, rfl, _, _, _, [], _, [], hW', trodAll_mk1 (shut_bool Try.underlying4 _), (trodAll_cons_mk (Below.trod laidOut (by kernel_rfl) (of_decide_eq_true (by kernel_rfl)) k0 bel lt0) (trodAll_cons_mk (Below.trod laidOut (by kernel_rfl) (of_decide_eq_true (by kernel_rfl)) k1 bel lt1) trodAll_mk0)), rfl, bel.frame _, fun h => by cases h⟩

/-- The statement. -/
theorem codecRows_holds : Rows.CodecRowsSaid :=
  OpenClaim.holds_of_wide 6 Try.f6 rfl rfl rfl rfl rfl rfl rfl ⟨rfl, rfl, rfl, rfl, rfl⟩ rfl rfl rfl rfl rfl (by kernel_rfl) Try.func6 (by kernel_rfl)
    (of_decide_eq_true (by kernel_rfl)) (by unfold Func.isWrapper; first | (rw [if_pos (by decide +kernel)]; kernel_rfl) | (rw [if_neg (by decide +kernel)]; exact ⟨rfl, rfl⟩))
    (fun os started H enc _ => lifted_codecRows os started H enc)
#print axioms codecRows_holds
end Go.Proofs.Ytcolmebpbjjehaa
