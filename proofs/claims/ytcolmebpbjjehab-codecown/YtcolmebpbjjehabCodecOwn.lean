/- What is handed in is left as it is, what is answered is nobody's else. -/
import Derived.Test.YtcolmebpbjjehabOpen
import Derived.Test.YtcolmebpbjjehabUnf
import Derived.Test.YtcolmebpbjjehabPutText
import Derived.Test.YtcolmebpbjjehabStor
namespace Go.Proofs.Ytcolmebpbjjehab
open Go.ChangeShapes Go.WideShapes Go.ChangeAt Go.RowKit
open Go.ChangeMaps (open_string shut_string)
set_option linter.unusedVariables false

def ABC : ByteArray := ⟨#[97, 98, 99]⟩

theorem frame_some (p : Option Addr) (c n : Nat) (xs : List Int) (w : World) (hn : xs.length = n) (hx : Bys w p xs) (hp : p = none → n = 0 ∧ c = 0) (hm : n ≤ 9223372036854775807) (hy : ∀ y ∈ xs, 0 ≤ y ∧ y < 256) :
    Calls Try.prog 15 #[.slice p n c] w fun e w' => ∃ v m L ec, e = .returned (.tuple #[v, .int .i64 ec]) ∧ Own w' w.heap.size v m L ∧ Below w.heap.size w w' := by
  by_cases h : n ≤ 1048576
  · exact (frame_any p c n xs w hn hx hp h hy).mono fun e w' ⟨v, h1, h2, h3⟩ => ⟨v, _, _, 0, h1, h2, h3⟩
  · exact (frame_long p c n w (by omega) hm).mono fun e w' ⟨h1, h2⟩ => ⟨.slice none 0 0, 0, [], 3, h1, by rw [h2]; exact World.ownsRow_nil _ _ _ _, by rw [h2]; exact Below.refl _ _⟩

theorem unframe_some (p : Option Addr) (c n : Nat) (xs : List Int) (w : World) (hn : xs.length = n) (hx : Bys w p xs) (hcap : n ≤ c) (hm : c ≤ 9223372036854775807) (hy : ∀ y ∈ xs, 0 ≤ y ∧ y < 256) :
    Calls Try.prog 17 #[.slice p n c] w fun e w' => ∃ v m L a b, e = .returned (.tuple #[v, .int .i64 a, .int .i64 b]) ∧ Own w' w.heap.size v m L ∧ Below w.heap.size w w' :=
  (unframe_any p c n xs w hn hx hcap hm hy).mono fun e w' ⟨v, h1, h2, h3⟩ => ⟨v, _, _, _, _, h1, h2, h3⟩

theorem form_at {w : World} {base n c : Nat} {p : Option Addr} {xs : List Int} (h : Own w base (.slice p n c) n xs) (hn : 0 < n) : ∃ g, p = some ⟨g, 0, none⟩ := by
  rcases h.form with ⟨_, h2, _⟩ | ⟨g, c', hv, _⟩
  · omega
  · simp only [Value.slice.injEq] at hv
    exact ⟨g, hv.1⟩

set_option maxHeartbeats 4000000 in
theorem walk_codecOwn (p : Option Addr) (len cap : Nat) (xs : List Int) (n : Int) (w : World) (hin : InB 140737488351232 w p len cap xs) (hn : (Lit.int .i64 n).wf = true) :
    Calls Try.prog 8 #[.slice p len cap, .int .i64 n] w fun e w' => e = .returned (.bool true) ∧ Below w.heap.size w w' := by
  obtain ⟨i0, hi, hz0, hz1, hz2⟩ := info_parts u8info
  obtain ⟨h0, h1⟩ := bounds_i64 hn
  clear hn
  have HI : Hid (InB 140737488351232 w p len cap xs) := hin
  have HIL : Hid (xs.length = len) := hin.lenq
  have HIB : Hid (∀ y ∈ xs, 0 ≤ y ∧ y < 256) := hin.byte
  have hle := hin.le
  have hcap := hin.room
  have hw := Cd.width_pos n
  clear hin
  go_enter Try.func8, Try.ntmps8
  go_wp2_with fail
  refine (clone_any p cap len xs _ HI.out.lenq HI.out.bys (by omega) HI.out.nil).mono ?_
  rintro e w1 ⟨va, rfl, OA1, hb1⟩
  have HI1 : Hid (InB 140737488351232 w1 p len cap xs) := HI.out.below hb1
  have HP1 : Hid (p = none → len = 0 ∧ cap = 0) := HI.out.nil
  clear HI
  go_wp2_with (at_make; refine wpList_make_own _ rfl _ _ 22 rfl w1.heap.size 5 i0 (.int .u8 0) 1 Try.underlying22 hi hz0 hz1 _ _ _ (len + 32) rfl rfl (by omega) (by rw [hz2]; omega) (by unfold maxLen; omega) (Nat.le_refl _) ?_)
  intro w2 hown2 hg2
  have hb2 : Below w1.heap.size w1 w2 := (Below.refl _ _).grown hg2 (Nat.le_refl _) (fun k hk => by cases hk)
  have HX2 : Hid (Bys w2 p xs) := HI1.out.bys.below hb2 (Nat.le_refl _)
  clear hg2
  go_wp2_with (at_builtin; refine wpList_append_fits_any _ rfl _ _ 22 rfl w1.heap.size 5 i0 1 Try.underlying22 hi hz1 w1.heap.size 0 (len + 32) [] rfl hown2 p len cap (xs.map (Value.int .u8)) rfl (by simp [HIL.out]) HP1.out HX2.out.cells (ints_oneCell _ _) (by omega) ?_)
  intro w3 hown3 hg3
  have hb3 : Below w1.heap.size w1 w3 := hb2.grown hg3 hb2.size (fun k hk => by cases hk; exact Nat.le_refl _)
  have OS3 : Own w3 w1.heap.size (.slice (some ⟨w1.heap.size, 0, none⟩) len (len + 32)) len xs := by simpa [Own] using hown3
  have OA3 : Own w3 w.heap.size va len xs := OA1.below hb3 (Nat.le_refl _)
  have HI3 : Hid (InB 140737488351232 w3 p len cap xs) := HI1.out.below hb3
  have hA1 := OA1.hi
  have hS3 := OS3.hi
  have z01 : w.heap.size ≤ w1.heap.size := hb1.size
  have z13 : w1.heap.size ≤ w3.heap.size := hb3.size
  have hB3 := hb1.trans (hb3.mono z01)
  clear hown2 hown3 hg3 hb2 hb3 hb1 HI1 HX2 OA1
  have HA1 : Hid _ := hA1
  have HS3 : Hid _ := hS3
  clear hA1 hS3
  go_wp2_with fail
  refine (putInt_own _ (len + 32) len xs n _ HIL.out OS3.at (by omega) (fun h => by cases h) h0 h1).mono ?_
  rintro e w4 ⟨vx, rfl, OX4, hb4⟩
  have OS4 := OS3.below hb4 (Nat.le_refl _)
  have OA4 := OA3.below hb4 (Nat.le_refl _)
  have HI4 : Hid (InB 140737488351232 w4 p len cap xs) := HI3.out.below hb4
  have z34 : w3.heap.size ≤ w4.heap.size := hb4.size
  have hB4 := hB3.trans (hb4.mono (Nat.le_trans z01 z13))
  have HX4 : Hid _ := OX4.hi
  clear OS3 OA3 HI3 hb4 hB3
  go_wp2_with fail
  refine (putText_any _ (len + 32) len xs ABC _ HIL.out OS4.at (by show len + 3 ≤ _; omega) (fun h => by cases h)).mono ?_
  rintro e w5 ⟨vy, rfl, OY5, hb5⟩
  have OS5 := OS4.below hb5 (Nat.le_refl _)
  have OA5 := OA4.below hb5 (Nat.le_refl _)
  have OX5 := OX4.below hb5 (Nat.le_refl _)
  have HI5 : Hid (InB 140737488351232 w5 p len cap xs) := HI4.out.below hb5
  have z45 : w4.heap.size ≤ w5.heap.size := hb5.size
  have hB5 := hB4.trans (hb5.mono (by omega))
  have HY5 : Hid _ := OY5.hi
  obtain ⟨ml, hml⟩ : ∃ ml, len + Cd.width ABC.size + ABC.size = ml := ⟨_, rfl⟩
  obtain ⟨YL, hYL⟩ : ∃ YL, xs ++ Cd.enc ABC.size ++ strB ABC = YL := ⟨_, rfl⟩
  rw [hml, hYL] at OY5
  have hmlb : ml ≤ 140737488355328 := by
    rw [← hml]
    have : Cd.width ABC.size = 1 := by decide
    rw [this]
    show len + 1 + 3 ≤ _
    omega
  clear OS4 OA4 OX4 HI4 hb5 hB4 hml hYL
  go_wp2_with fail
  refine (clone_any p cap len xs _ HI5.out.lenq HI5.out.bys (by omega) HI5.out.nil).mono ?_
  rintro e w6 ⟨v6, rfl, OC6, hb6⟩
  go_wp2_with fail
  refine (refInt_any n _ h0 h1).mono ?_
  rintro e w7 ⟨v7, rfl, OR7, hb7⟩
  have OC7 := OC6.below hb7 (Nat.le_refl _)
  obtain ⟨p7, c7, hv7, hc7, hp7, hby7⟩ := OR7.bys
  subst hv7
  have z56 : w5.heap.size ≤ w6.heap.size := hb6.size
  have z57 : w5.heap.size ≤ w7.heap.size := Nat.le_trans hb6.size hb7.size
  have hb57 : Below w5.heap.size w5 w7 := hb6.trans (hb7.mono z56)
  have HR7 : Hid (Bys w7 p7 (Cd.enc n)) := hby7
  have HN7 : Hid (p7 = none → Cd.width n = 0 ∧ c7 = 0) := hp7
  clear OC6 hb6 hb7 OR7 hp7 hby7
  go_wp2_with (at_builtin; refine app8 _ rfl _ _ rfl w5.heap.size v6 len xs rfl OC7 p7 (Cd.width n) c7 (Cd.enc n) rfl HR7.out (Cd.enc_length n) HN7.out (by omega) z57 ?_)
  intro vw w8 OW8 hb8
  have hb58 := hb57.trans hb8
  have OS8 := OS5.below hb58 (Nat.le_refl _)
  have OA8 := OA5.below hb58 (Nat.le_refl _)
  have OX8 := OX5.below hb58 (Nat.le_refl _)
  have OY8 := OY5.below hb58 (Nat.le_refl _)
  have z58 : w5.heap.size ≤ w8.heap.size := hb58.size
  have hB8 := hB5.trans (hb58.mono (by omega))
  have HW8 : Hid _ := OW8.hi
  clear OC7 HR7 HN7 hb57 hb8 hb58 OS5 OA5 OX5 OY5 HI5 hB5
  have HI8L := HIL
  go_wp2_with fail
  refine (frame_some _ (len + 32) len xs _ HIL.out OS8.at (fun h => by cases h) (by omega) HIB.out).mono ?_
  rintro e wD ⟨vf, mf, FL, ef, rfl, OFD, hbD⟩
  have OSD := OS8.below hbD (Nat.le_refl _)
  have OAD := OA8.below hbD (Nat.le_refl _)
  have OXD := OX8.below hbD (Nat.le_refl _)
  have OYD := OY8.below hbD (Nat.le_refl _)
  have OWD := OW8.below hbD (Nat.le_refl _)
  have hBD := hB8.trans (hbD.mono hB8.size)
  clear OS8 OA8 OX8 OY8 OW8 hbD hB8
  obtain ⟨py, cy, hvy, _, _, _⟩ := OYD.bys
  subst hvy
  have hm_wD : ml ≤ 9223372036854775807 := OYD.n_le
  go_wp2_with fail
  go_loopw [43] (fun i wr => ∃ (k : Nat) (ZL : List Int), k ≤ ml ∧ i = .int .i64 k ∧ Own wr w4.heap.size (.slice py ml cy) ml ZL ∧ wD.grownBy wr (Value.slice py ml cy).ownBlock) (fun i _ => ml - (intOf i).toNat)
  case atStart => exact ⟨0, _, Nat.zero_le _, rfl, OYD, World.grownBy.refl _ _⟩
  case round =>
    obtain ⟨k, ZL, hk, rfl, OZ, hgz⟩ := hrel
    by_cases hlt : k < ml
    · obtain ⟨g, rfl⟩ := form_at OZ (by omega)
      have hcz := OZ.cell k hlt
      have hfz := OZ.frozen k
      have hset := OZ.set k (bits .xor .u8 (ZL.getD k 0) 255)
      have hgz2 : wD.grownBy (wr.setCell ⟨g, k, none⟩ (.int .u8 (bits .xor .u8 (ZL.getD k 0) 255))) (some g) := grown_trans hgz hset.2
      have OZ2 := hset.1
      generalize ZL.getD k 0 = z at hcz OZ2 hgz2
      clear hset OZ hgz
      have HO2 : Hid _ := OZ2
      have HG2 : Hid _ := hgz2
      clear OZ2 hgz2
      go_wp2
      go_roundw
      case rel => exact ⟨k + 1, _, by omega, by go_num, HO2.out, HG2.out⟩
      case measure => simp [intOf]; omega
    · obtain rfl : k = ml := by omega
      obtain ⟨wE, hwE⟩ : ∃ wE, wE = wr := ⟨_, rfl⟩
      subst hwE
      clear hlt hk hm_wD
      have OSE := OSD.kept hgz (apart HS3.out OZ z34).1
      have OAE := OAD.kept hgz (apart HA1.out OZ (by omega)).1
      have OXE := OXD.kept hgz (apart HX4.out OZ (Nat.le_refl _)).1
      have OWE := OWD.kept hgz (apart HY5.out OWD (Nat.le_refl _)).2
      have OFE := OFD.kept hgz (apart HY5.out OFD z58).2
      have HSE : Hid (∀ k, (Value.slice (some ⟨w1.heap.size, 0, none⟩) len (len + 32)).ownBlock = some k → k < w8.heap.size) := fun k hk => Nat.lt_of_lt_of_le (HS3.out k hk) (by omega)
      have HAE : Hid (∀ k, va.ownBlock = some k → k < w8.heap.size) := fun k hk => Nat.lt_of_lt_of_le (HA1.out k hk) (by omega)
      have HXE : Hid (∀ k, vx.ownBlock = some k → k < w8.heap.size) := fun k hk => Nat.lt_of_lt_of_le (HX4.out k hk) (by omega)
      have zE3 : w8.heap.size ≤ w8.heap.size := Nat.le_refl _
      have hBE := below_grown_own hBD hgz OYD (by omega) hBD.size
      clear OSD OAD OXD OWD OYD OFD hBD OZ hgz
      obtain ⟨pf, cf, hvf, _, _, _⟩ := OFE.bys
      subst hvf
      have hm_wE : mf ≤ 9223372036854775807 := OFE.n_le
      go_wp2_with fail
      go_loopw [55] (fun i wr => ∃ (k : Nat) (ZL : List Int), k ≤ mf ∧ i = .int .i64 k ∧ Own wr w8.heap.size (.slice pf mf cf) mf ZL ∧ wE.grownBy wr (Value.slice pf mf cf).ownBlock) (fun i _ => mf - (intOf i).toNat)
      case atStart => exact ⟨0, _, Nat.zero_le _, rfl, OFE, World.grownBy.refl _ _⟩
      case round =>
        obtain ⟨k, ZL, hk, rfl, OZ, hgz⟩ := hrel
        by_cases hlt : k < mf
        · obtain ⟨g, rfl⟩ := form_at OZ (by omega)
          have hcz := OZ.cell k hlt
          have hfz := OZ.frozen k
          have hset := OZ.set k (bits .xor .u8 (ZL.getD k 0) 255)
          have hgz2 : wE.grownBy (wr.setCell ⟨g, k, none⟩ (.int .u8 (bits .xor .u8 (ZL.getD k 0) 255))) (some g) := grown_trans hgz hset.2
          have OZ2 := hset.1
          generalize ZL.getD k 0 = z at hcz OZ2 hgz2
          clear hset OZ hgz
          have HO2 : Hid _ := OZ2
          have HG2 : Hid _ := hgz2
          clear OZ2 hgz2
          go_wp2
          go_roundw
          case rel => exact ⟨k + 1, _, by omega, by go_num, HO2.out, HG2.out⟩
          case measure => simp [intOf]; omega
        · obtain rfl : k = mf := by omega
          obtain ⟨wF, hwF⟩ : ∃ wF, wF = wr := ⟨_, rfl⟩
          subst hwF
          clear hlt hk hm_wE
          have OSF := OSE.kept hgz (apart HSE.out OZ zE3).1
          have OAF := OAE.kept hgz (apart HAE.out OZ zE3).1
          have OXF := OXE.kept hgz (apart HXE.out OZ zE3).1
          have OWF := OWE.kept hgz (apart HW8.out OZ (Nat.le_refl _)).1
          have zF : wE.heap.size ≤ wF.heap.size := hgz.size
          have hBF := below_grown_own hBE hgz OFE (by omega) hBE.size
          clear OSE OAE OXE OWE OFE hBE OZ hgz
          go_wp2_with fail
          refine (unframe_some _ (len + 32) len xs _ HIL.out OSF.at (by omega) (by omega) HIB.out).mono ?_
          rintro e wG ⟨vu, mu, UL, ua, ub, rfl, OUG, hbG⟩
          have OSG := OSF.below hbG (Nat.le_refl _)
          have OAG := OAF.below hbG (Nat.le_refl _)
          have OXG := OXF.below hbG (Nat.le_refl _)
          have OWG := OWF.below hbG (Nat.le_refl _)
          have HSG : Hid _ := OSF.hi
          have HAG : Hid _ := OAF.hi
          have HXG : Hid _ := OXF.hi
          have HWG : Hid _ := OWF.hi
          have zG : wF.heap.size ≤ wF.heap.size := Nat.le_refl _
          have zE4 : wF.heap.size ≤ wF.heap.size := Nat.le_refl _
          have hBG := hBF.trans (hbG.mono hBF.size)
          have zwF : w.heap.size ≤ wF.heap.size := hBF.size
          clear OSF OAF OXF OWF hbG hBF
          obtain ⟨pu, cu, hvu, _, _, _⟩ := OUG.bys
          subst hvu
          have hm_wG : mu ≤ 9223372036854775807 := OUG.n_le
          go_wp2_with fail
          go_loopw [73] (fun i wr => ∃ (k : Nat) (ZL : List Int), k ≤ mu ∧ i = .int .i64 k ∧ Own wr wF.heap.size (.slice pu mu cu) mu ZL ∧ wG.grownBy wr (Value.slice pu mu cu).ownBlock) (fun i _ => mu - (intOf i).toNat)
          case atStart => exact ⟨0, _, Nat.zero_le _, rfl, OUG, World.grownBy.refl _ _⟩
          case round =>
            obtain ⟨k, ZL, hk, rfl, OZ, hgz⟩ := hrel
            by_cases hlt : k < mu
            · obtain ⟨g, rfl⟩ := form_at OZ (by omega)
              have hcz := OZ.cell k hlt
              have hfz := OZ.frozen k
              have hset := OZ.set k (bits .xor .u8 (ZL.getD k 0) 255)
              have hgz2 : wG.grownBy (wr.setCell ⟨g, k, none⟩ (.int .u8 (bits .xor .u8 (ZL.getD k 0) 255))) (some g) := grown_trans hgz hset.2
              have OZ2 := hset.1
              generalize ZL.getD k 0 = z at hcz OZ2 hgz2
              clear hset OZ hgz
              have HO2 : Hid _ := OZ2
              have HG2 : Hid _ := hgz2
              clear OZ2 hgz2
              go_wp2
              go_roundw
              case rel => exact ⟨k + 1, _, by omega, by go_num, HO2.out, HG2.out⟩
              case measure => simp [intOf]; omega
            · obtain rfl : k = mu := by omega
              obtain ⟨wH, hwH⟩ : ∃ wH, wH = wr := ⟨_, rfl⟩
              subst hwH
              clear hlt hk hm_wG
              have OSH := OSG.kept hgz (apart HSG.out OZ (Nat.le_trans zE4 zG)).1
              have OAH := OAG.kept hgz (apart HAG.out OZ (Nat.le_trans zE4 zG)).1
              have OXH := OXG.kept hgz (apart HXG.out OZ (Nat.le_trans zE4 zG)).1
              have OWH := OWG.kept hgz (apart HWG.out OZ (Nat.le_trans zE4 zG)).1
              have hBH := below_grown_own hBG hgz OUG (by omega) hBG.size
              clear OSG OAG OXG OWG OUG hBG OZ hgz
              go_wp2_with fail
              refine (live_any _).mono ?_
              rintro e wI ⟨rfl, hbI⟩
              have OSI := OSH.below hbI (Nat.le_refl _)
              have OAI := OAH.below hbI (Nat.le_refl _)
              have OXI := OXH.below hbI (Nat.le_refl _)
              have OWI := OWH.below hbI (Nat.le_refl _)
              have hBI := hBH.trans (hbI.mono hBH.size)
              obtain ⟨pa, ca, hva, _, _, hbya⟩ := OAI.bys
              subst hva
              obtain ⟨px, cx, hvx, _, _, hbyx⟩ := OXI.bys
              subst hvx
              obtain ⟨pw, cw, hvw, _, _, hbyw⟩ := OWI.bys
              subst hvw
              have HBA : Hid (Bys wI pa xs) := hbya
              have HBX : Hid (Bys wI px (xs ++ Cd.enc n)) := hbyx
              have HBWW : Hid (Bys wI pw (xs ++ Cd.enc n)) := hbyw
              have HBS : Hid (Bys wI (some ⟨w1.heap.size, 0, none⟩) xs) := OSI.at
              have HLX : Hid _ := OXI.len
              have HLW : Hid _ := OWI.len
              have HBB : Hid (∀ y ∈ xs ++ Cd.enc n, 0 ≤ y ∧ y < 256) := app_byte HIB.out (enc_byte n h0 h1)
              clear OSI OAI OXI OWI OSH OAH OXH OWH hbya hbyx hbyw hbI hBH
              go_wp2_with fail
              refine (equal_any _ pa _ ca _ _ xs xs _ HIL.out HIL.out HBS.out HBA.out HIB.out HIB.out).mono ?_
              rintro e wJ ⟨rfl, hwJ⟩
              subst hwJ
              simp only [decide_true]
              go_wp2_with fail
              refine (equal_any px pw cx cw _ _ _ _ _ HLX.out HLW.out HBX.out HBWW.out HBB.out HBB.out).mono ?_
              rintro e wK ⟨rfl, hwK⟩
              subst hwK
              simp only [decide_true]
              go_wp2
              go_ret
              exact ⟨rfl, hBI⟩

set_option maxRecDepth 100000 in
theorem lifted_codecOwn (os : Os) (started : os.Started) (H : Type) (enc : TypeId × Value → H) :
    ReturnsInHanded {} Try.checked os 8 .any (Rows.codecOwnSpec.pre6 enc Try.prog Try.f8 Rows.codecOwnRow.domain false) (Rows.codecOwnSpec.post enc Try.prog Try.f8 false true false false) := by
  refine returnsInHanded_of_change_sized (C := Try.checked) own started (by kernel_rfl) Try.func8
    (ChangeSpec.witness6 (enc := enc) (C := Try.checked) false ⟨#[], #[.slice none 0 0, .int .i64 0], []⟩ 8 (by kernel_rfl) (by kernel_rfl) (by kernel_rfl) (by kernel_rfl)) ?_
  intro W base args ds gs before hval0 hW _ hsz0 _
  have hsz : (DataW.weightsEach Try.prog (Try.f8.params.toList ++ Rows.codecOwnSpec.plain.varTypes Try.prog) (ds ++ gs)).all (· ≤ reachBytes) = true := hsz0
  clear hsz0
  have hval : ∀ (j : Nat) t v, Try.f8.params[j]? = some t → args[j]? = some v → Value.okWide Try.prog W .any base t v := hval0
  have hW' := hW
  obtain ⟨p, q, hA0, hV, rfl, hfz, hnd⟩ := hW
  have hA : DataW.TrodAll enc Try.prog W 0 (fun _ => true) true Try.f8.params.toList args.toList ds p := hA0
  rw [Try.params8] at hA hval hsz
  obtain ⟨v0, vs0, d0, ds0, p0, q0, hargs, rfl, rfl, h0, r0⟩ := trodAll_cons hA
  obtain ⟨v1, vs1, d1, ds1, p1, q1, rfl, rfl, rfl, h1, r1⟩ := trodAll_cons r0
  obtain ⟨rfl, rfl, rfl⟩ := trodAll_nil r1
  obtain rfl : args = #[v0, v1] := by cases args; simp_all
  obtain ⟨rfl, rfl⟩ := trodVars_none hV
  obtain ⟨a0, len0, cap0, rfl⟩ := okWide_slice Try.underlying22 (hval 0 22 v0 rfl rfl)
  have k0 := h0
  have lt0 : ∀ x ∈ p0, x.block < W.heap.size := by obtain ⟨m, hm⟩ := k0; exact DataW.trod_lt m _ _ _ hm
  obtain ⟨z0, w0⟩ : ∃ zs, InB 140737488351232 W a0 len0 cap0 zs := by
    refine in_bytes h0 ?_
    intro elems spare hd
    have := sized_slice hsz (j := 0) (t := 22) (e := 5) rfl (by rw [hd]; rfl) Try.underlying22
    rw [bytes_u8] at this
    simp only [reachBytes] at this
    omega
  obtain ⟨a1, rfl, rfl, rfl, w1⟩ := open_int Try.underlying2 (hval 1 2 v1 rfl rfl) h1
  clear hA0 hval0
  refine (walk_codecOwn a0 len0 cap0 z0 a1 W w0 w1).mono fun e W' ⟨he, bel⟩ => ?_
  subst he
  exact ⟨_, rfl, _, _, _, [], _, [], hW', trodAll_mk1 (shut_bool Try.underlying4 _), (trodAll_cons_mk (Below.trod laidOut (by kernel_rfl) (of_decide_eq_true (by kernel_rfl)) k0 bel lt0) (trodAll_cons_mk (shut_int Try.underlying2 w1) trodAll_mk0)), rfl, bel.frame _, fun h => by cases h⟩

/-- The statement. -/
theorem codecOwn_holds : Rows.CodecOwnSaid :=
  OpenClaim.holds_of_wide 8 Try.f8 rfl rfl rfl rfl rfl rfl rfl ⟨rfl, rfl, rfl, rfl, rfl⟩ rfl rfl rfl rfl rfl (by kernel_rfl) Try.func8 (by kernel_rfl)
    (of_decide_eq_true (by kernel_rfl)) (by unfold Func.isWrapper; first | (rw [if_pos (by decide +kernel)]; kernel_rfl) | (rw [if_neg (by decide +kernel)]; exact ⟨rfl, rfl⟩))
    (fun os started H enc _ => lifted_codecOwn os started H enc)
#print axioms codecOwn_holds
end Go.Proofs.Ytcolmebpbjjehab
