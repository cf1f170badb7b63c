/- Whatever is picked, whichever fiber was dropped: of up to sixty fibers, each of which needs so many steps, none does a step again that has finished or was dropped; the steps that were counted are those of the scheduler. -/
import Derived.Test.YtpjcclmmplddeaaSdPk
namespace Go.Proofs.Ytpjcclmmplddeaa
open Go.ChangeShapes Go.WideShapes Go.ChangeAt Go.RowKit
open Go.ChangeMaps (open_string shut_string)
set_option linter.unusedVariables false
set_option maxRecDepth 100000

/-- How many steps the fiber at a place needs. -/
def needK (l : List Int) (i : Nat) : Int := (l.getD i 0) % 20 + 1
theorem needK_le {l : List Int} (h : ∀ x ∈ l, 0 ≤ x ∧ x < 256) (i : Nat) : 1 ≤ needK l i ∧ needK l i ≤ 20 := by
  have h0 : 0 ≤ l.getD i 0 := by
    by_cases hi : i < l.length
    · have := h _ (List.getElem_mem hi)
      simp [List.getD, List.getElem?_eq_getElem hi]
      exact this.1
    · simp [List.getD, List.getElem?_eq_none (Nat.le_of_not_lt hi)]
  unfold needK
  omega

/-- Where the fibers count. -/
def ctrs (G m : Nat) : List Addr := (List.range m).map fun i => ⟨G, i, none⟩
theorem mem_ctrs {G m i : Nat} (hi : i < m) : (⟨G, i, none⟩ : Addr) ∈ ctrs G m := List.mem_map.2 ⟨i, by simpa using hi, rfl⟩

theorem pick_at {fl : List Fb} (h : fl ≠ []) (x : Int) : ∃ (f : Fb) (i : Nat), fl[i]? = some f ∧ x % (fl.length : Int) = (i : Int) := by
  have hl : 0 < fl.length := List.length_pos_iff.2 h
  have h1 := Int.emod_nonneg x (b := (fl.length : Int)) (by omega)
  have h2 := Int.emod_lt_of_pos x (b := (fl.length : Int)) (by omega)
  exact ⟨fl[(x % (fl.length : Int)).toNat]'(by omega), (x % (fl.length : Int)).toNat, List.getElem?_eq_getElem _, by omega⟩
theorem wrap_i9 {x : Int} (h1 : -9223372036854775808 ≤ x) (h2 : x ≤ 9223372036854775807) : IntKind.i64.wrap x = x := wrap_id9 ⟨h1, h2⟩
theorem wrap_b9 {x : Int} (h1 : 0 ≤ x) (h2 : x < 256) : IntKind.u8.wrap x = x := by
  rw [IntKind.wrap_u8]
  omega
theorem slot_down {m j : Nat} (h : j < m) : m - slotN (Value.int .i64 ((j : Int) + 1)) < m - slotN (Value.int .i64 (j : Int)) := by
  have e : slotN (Value.int .i64 ((j : Int) + 1)) = j + 1 := slotN_int (j + 1)
  have e2 := slotN_int j
  omega
theorem picks_bad {a b : Int} (h : a < 1 ∨ b < a) (h1 : 1 ≤ a) (h2 : a ≤ b) : False := by omega
theorem hidLw {p : Prop} (h : Hid p) : Hid p := h

set_option maxHeartbeats 8000000 in
theorem walk_schedPicks (a : Option Addr) (len cap : Nat) (l : List Int) (pa : Option Addr) (pn pc : Nat) (pl : List Int) (drop : Int) (w : World) (hU : InU w a len cap l) (hP : InZ w pa pn pc pl) (hd : (Lit.int .i64 drop).wf = true) :
    Calls Try.prog 5 #[.slice a len cap, .slice pa pn pc, .int .i64 drop] w fun e w' => e = .returned (.bool true) ∧ Below w.heap.size w w' := by
  have HU : Hid (InU w a len cap l ∧ InZ w pa pn pc pl ∧ (Lit.int .i64 drop).wf = true) := ⟨hU, hP, hd⟩
  have hlc := hU.le
  have hlb := hU.room
  have hpn : pn ≤ 17592186043904 := Nat.le_trans hP.le hP.room
  clear hU hP hd
  go_enter Try.func5, Try.ntmps5
  go_wp2_with fail
  refine (new_any 4096 (by omega) (by omega) 1000 (by omega) (fun _ => 0) w).mono ?_
  rintro e w1 ⟨g1, rfl, h1, hb1, hca, hbs, hfr, hX⟩
  have HL1 : Hid (Lw w w1 1000 g1 (Sc.new 4096 fun _ => 0) ∧ g1.ca = []) := ⟨⟨h1, hfr, hb1⟩, hca⟩
  clear h1 hb1 hca hbs hfr hX
  go_wp2_with fail
  refine (begun_any _).mono ?_
  rintro e w2 ⟨rfl, hb2⟩
  have HL2 : Hid (Lw w w2 1000 g1 (Sc.new 4096 fun _ => 0) ∧ g1.ca = []) := ⟨HL1.out.1.still hb2, HL1.out.2⟩
  clear HL1 hb2
  obtain ⟨m, hm⟩ : ∃ m, m = min len 60 := ⟨_, rfl⟩
  have hmin : min ((len : Nat) : Int) 60 = ((m : Nat) : Int) := by omega
  have HM : Hid (m = min len 60 ∧ m ≤ 60 ∧ m ≤ len) := ⟨hm, by omega, by omega⟩
  have hm60 : m ≤ 60 := by omega
  have hmc : m ≤ cap := by omega
  obtain ⟨i0, hi, hz0, hz1, hz2⟩ := info_parts i64info
  clear hm
  go_wp2_with (at_make; refine wpList_make_full _ rfl _ _ 43 rfl w2.heap.size 2 i0 (.int .i64 0) 1 Try.underlying43 hi hz0 hz1 .i64 .i64 _ _ m rfl rfl rfl rfl (by rw [hz2]; omega) (by unfold maxLen; omega) (Nat.le_refl _) ?_; intro w3 hown3 hg3; refine Hid.out ?_)
  unfold Hid
  obtain ⟨G, HG⟩ : ∃ G, Hid (w2.heap.size = G) := ⟨_, rfl⟩
  rw [HG.out] at hown3 ⊢
  have HL3 : Hid (Lw w w3 1000 { g1 with ca := ctrs G m } (Sc.new 4096 fun _ => 0)) := by
    have hb3 : Below w2.heap.size w2 w3 := ⟨hg3.os, hg3.tape, hg3.output, hg3.size, fun k hk => hg3.block k hk (by simp)⟩
    have h3 := HL2.out.1.still hb3
    have hs := HL2.out.1.below.size
    have hvd : ∀ k, g1.vd.ownBlock = some k → k < w2.heap.size := fun k hk => row_block HL2.out.1.sd.dn k hk
    obtain ⟨cs, hcs⟩ := row_bk hown3 (k := G) rfl
    have := h3.addC (ctrs G m) (fun a ha => by
      obtain ⟨i, hi, rfl⟩ := List.mem_map.1 ha
      have hi' : i < m := by simpa using hi
      refine ⟨by show _ ≤ G; rw [← HG.out]; exact hs, fun e => ?_, G, i, cs, rfl, hcs, ?_⟩
      · have := hvd _ e
        rw [HG.out] at this
        exact Nat.lt_irrefl _ this
      · have h1 := hcs.cell i
        rw [hown3.cellAt i (by omega), Nat.mul_one, show (Value.int .i64 0).cells = #[.int .i64 0] from rfl, toList_madeCells_one] at h1
        rw [← h1]
        simp [hi', Sc.new])
    rw [HL2.out.2, List.nil_append] at this
    exact this
  clear hown3 hg3 HL2
  have HK : Hid (∀ i, 1 ≤ needK l i ∧ needK l i ≤ 20) := needK_le HU.out.1.ok
  go_wp2_with fail
  go_loopw [46] (fun iv wr => ∃ (j : Nat) (g : Ge) (s : Sc), iv = .int .i64 (j : Int) ∧ j ≤ m ∧ Hid (Lw w wr 1000 g s ∧ g.S = g1.S ∧ g.ca = ctrs G m ∧ Pk G m j (needK l) s ∧ s.all j ∧ s.D = fun _ => 0)) (fun iv _ => m - slotN iv)
  case atStart =>
    refine ⟨0, _, _, rfl, Nat.zero_le _, HL3.out, rfl, rfl, ⟨rfl, rfl, rfl, (fun f hf => by cases hf), fun i hi => ?_, ?_, by simp [Sc.new]⟩, (fun i h1 h2 => by omega), rfl⟩
    · have := HK.out i
      simp [Sc.new]
      omega
    · show (0 : Int) = _
      have : ∀ n, sumD (fun _ => 0) G n = 0 := fun n => by
        induction n with
        | zero => rfl
        | succ n ih => simp [sumD, ih]
      exact (this m).symm
  case round =>
    obtain ⟨j, g, s, rfl, hj, HS⟩ := hrel
    by_cases hlt : j < m
    · have hli : (j : Int) < (m : Int) := by omega
      have hj0 : (0 : Int) ≤ (j : Int) := by omega
      obtain ⟨b, o, x, rfl, hx, hok, hcx⟩ := (HU.out.1.up HS.out.1.below).at (j := j) (by have := HM.out.2.2; omega)
      have z0 : wr.cell? ⟨b, o + j, none⟩ = some (.int .u8 x) := by
        have := hcx 0 _ rfl
        simpa using this
      have hKj : needK l j = x % 20 + 1 := by unfold needK; simp [List.getD, hx]
      have hgS := HS.out.2.1
      have hsp := spawnL (left := needK l j) (cnt := ⟨G, j, none⟩) HS.out.1 (by rw [HS.out.2.2.1]; exact mem_ctrs hlt) (by have := HS.out.2.2.2.1.fit; have := HS.out.2.2.2.1.room; omega) (by rw [HS.out.2.2.2.1.len]; omega) HS.out.2.2.2.1.rest (by rw [HS.out.2.2.2.1.len]; omega)
      rw [hgS, HS.out.2.2.2.1.len, hKj] at hsp
      have HSP : Hid _ := hsp
      clear hsp hcx
      go_wp2_with fail
      refine Calls.mono HSP.out ?_
      rintro e w4 ⟨rfl, g4, hL4, hS4, hc4⟩
      have HN : Hid (Lw w w4 1000 g4 (s.spawned wr.heap.size (x % 20 + 1) ⟨G, j, none⟩) ∧ g4.S = g1.S ∧ g4.ca = ctrs G m ∧ Pk G m (j + 1) (needK l) (s.spawned wr.heap.size (x % 20 + 1) ⟨G, j, none⟩) ∧ (s.spawned wr.heap.size (x % 20 + 1) ⟨G, j, none⟩).all (j + 1) ∧ (s.spawned wr.heap.size (x % 20 + 1) ⟨G, j, none⟩).D = fun _ => 0) := by
        have hp := HS.out.2.2.2.1.spawn HS.out.2.2.2.2.1 hlt (fb := wr.heap.size) (by rw [HS.out.2.2.2.2.2]) (HK.out j).1
        rw [hKj] at hp
        exact ⟨hL4, hS4, hc4.trans HS.out.2.2.1, hp.1, hp.2, HS.out.2.2.2.2.2⟩
      clear hL4 hS4 hc4 HSP z0 hKj hok hx hgS
      go_wp2
      go_roundw
      case rel => exact ⟨j + 1, _, _, by go_num, Nat.succ_le_of_lt hlt, HN⟩
      case measure => exact slot_down hlt
    · have hje : j = m := by omega
      have HS2 : Hid (Lw w wr 1000 g s ∧ g.S = g1.S ∧ g.ca = ctrs G m ∧ Pk G m m (needK l) s ∧ s.all m) := ⟨HS.out.1, HS.out.2.1, HS.out.2.2.1, hje ▸ HS.out.2.2.2.1, hje ▸ HS.out.2.2.2.2.1⟩
      have hnli : ¬ (j : Int) < (m : Int) := by omega
      clear HS
      have hcase : (1 ≤ drop ∧ drop ≤ (m : Int)) ∨ ¬ (1 ≤ drop ∧ drop ≤ (m : Int)) := Classical.em _
      have hgS := HS2.out.2.1
      obtain ⟨dr, k, hk0, hdr, HDC⟩ : ∃ (dr : Bool) (k : Int), (k == 0) = dr ∧ dr = decide (1 ≤ drop ∧ drop ≤ (m : Int)) ∧ Hid (Calls Try.prog 21 #[.pointer (some ⟨g1.S, 0, none⟩), .int .i64 drop] wr fun e w' => e = .returned (.int .i64 k) ∧ ∃ g' s', Lw w w' 1000 g' s' ∧ g'.S = g1.S ∧ g'.ca = ctrs G m ∧ Pk G m m (needK l) s' ∧ (dr = true → ∀ f ∈ s'.fl, (f.num : Int) ≠ drop)) := by
        rcases hcase with hc | hc
        · obtain ⟨n, hn⟩ : ∃ n : Nat, drop = (n : Int) := ⟨drop.toNat, by omega⟩
          obtain ⟨f, hf, hfn⟩ := HS2.out.2.2.2.2 n (by omega) (by omega)
          refine ⟨true, 0, rfl, by simp [hc], ?_⟩
          have hdp := drop_any HS2.out.1.sd HS2.out.2.2.2.1.rest hf (n := n) hfn.symm
          rw [hgS, ← hn] at hdp
          refine Calls.mono hdp ?_
          rintro e w' ⟨rfl, g', h', t'⟩
          refine ⟨rfl, g', s.dropped n, HS2.out.1.aft h' t', t'.same.1.trans hgS, t'.same.2.2.2.2.trans HS2.out.2.2.1, HS2.out.2.2.2.1.drop n, fun _ x hx => ?_⟩
          have := (List.mem_filter.1 hx).2
          simp at this
          omega
        · refine ⟨false, 4, rfl, by simp [hc], ?_⟩
          have hdp := drop_no HS2.out.1.sd drop HU.out.2.2 (fat_none.2 fun f hf e => by
            have := HS2.out.2.2.2.1.fib f hf
            omega)
          rw [hgS] at hdp
          refine Calls.mono hdp ?_
          rintro e w' ⟨rfl, rfl⟩
          exact ⟨rfl, g, s, HS2.out.1, hgS, HS2.out.2.2.1, HS2.out.2.2.2.1, fun h => by cases h⟩
      clear HS2 hgS hcase
      go_wp2_with fail
      refine Calls.mono HDC.out ?_
      rintro e w5 ⟨rfl, g5, s5, hL5, hS5, hc5, hP5, hD5⟩
      have H5 : Hid (Lw w w5 1000 g5 s5 ∧ g5.S = g1.S ∧ g5.ca = ctrs G m ∧ Pk G m m (needK l) s5 ∧ (dr = true → ∀ f ∈ s5.fl, (f.num : Int) ≠ drop)) := ⟨hL5, hS5, hc5, hP5, hD5⟩
      clear hL5 hS5 hc5 hP5 hD5 HDC
      obtain ⟨db, HDB⟩ : ∃ db : Bool, Hid (db = dr) := ⟨_, rfl⟩
      rw [← HDB.out] at H5
      have hcs : (1 ≤ drop ∧ drop ≤ (m : Int) ∧ dr = true) ∨ (1 ≤ drop ∧ ¬ drop ≤ (m : Int) ∧ dr = false) ∨ (¬ 1 ≤ drop ∧ dr = false) := by
        by_cases h1 : 1 ≤ drop
        · by_cases h2 : drop ≤ (m : Int)
          · exact .inl ⟨h1, h2, by rw [hdr]; simp [h1, h2]⟩
          · exact .inr (.inl ⟨h1, h2, by rw [hdr]; simp [h1]; omega⟩)
        · exact .inr (.inr ⟨h1, by rw [hdr]; simp; omega⟩)
      clear hdr
      rcases hcs with ⟨h1, h2, hd⟩ | ⟨h1, h2, hd⟩ | ⟨h1, hd⟩
      all_goals
        subst hd
        as_aux_lemma =>
          go_wp2_with fail
          go_loopw [80] (fun iv wr => ∃ (j : Nat) (g : Ge) (s : Sc), iv = .int .i64 (j : Int) ∧ j ≤ pn ∧ Hid (Lw w wr 1000 g s ∧ g.S = g1.S ∧ g.ca = ctrs G m ∧ Pk G m m (needK l) s ∧ (db = true → ∀ f ∈ s.fl, (f.num : Int) ≠ drop))) (fun iv _ => pn - slotN iv)
          case atStart => exact ⟨0, g5, s5, rfl, Nat.zero_le _, H5⟩
          case round =>
            clear H5
            obtain ⟨j, g, s, rfl, hj, HS⟩ := hrel
            have hgS := HS.out.2.1
            by_cases hlt : j < pn
            · have hli : (j : Int) < (pn : Int) := by omega
              have hj0 : (0 : Int) ≤ (j : Int) := by omega
              obtain ⟨b, o, x, rfl, hx, hok, hcx⟩ := (HU.out.2.1.up HS.out.1.below).at (j := j) hlt
              have z0 : wr.cell? ⟨b, o + j, none⟩ = some (.int .i64 x) := by
                have := hcx 0 _ rfl
                simpa using this
              clear hcx hx
              by_cases hfl : s.fl = []
              · have hpk := pick_none HS.out.1.sd x hfl
                have hct := count_any HS.out.1.sd 0 (by rw [hfl]; rfl)
                rw [hgS] at hpk hct
                have HPK : Hid _ := hpk
                have HCT : Hid _ := hct
                clear hpk hct hfl
                go_wp2_with fail
                refine Calls.mono HPK.out ?_
                rintro e w6 ⟨rfl, rfl⟩
                go_wp2_with fail
                refine Calls.mono HCT.out ?_
                rintro e w6 ⟨rfl, rfl⟩
                clear HPK HCT z0
                go_wp2
                go_roundw
                case rel => exact ⟨j + 1, _, _, by go_num, Nat.succ_le_of_lt hlt, HS⟩
                case measure => exact slot_down hlt
              · obtain ⟨f, i, hfi, hi⟩ := pick_at hfl x
                have hf : f ∈ s.fl := List.mem_of_getElem? hfi
                have hsm := HS.out.2.2.2.1.small (Nat.le_refl _) (fun i => (HK.out i).2)
                obtain ⟨ov, hov⟩ : ∃ ov, ov = decide (f.left ≤ 1) := ⟨_, rfl⟩
                have hpk := pick_any HS.out.1.sd HS.out.2.2.2.1.rest x hok hfi hi (hsm f hf) (by rw [HS.out.2.2.2.1.len]; omega) hov
                rw [hgS] at hpk
                obtain ⟨hPs, hDs⟩ := HS.out.2.2.2.1.step (Nat.le_refl _) hm60 (fun i => (HK.out i).2) hf HS.out.1.sd.rs
                obtain ⟨f1, f2, f3, f4, f5⟩ := HS.out.2.2.2.1.fib f hf
                obtain ⟨nn, hnn⟩ : ∃ nn, f.num = nn := ⟨_, rfl⟩
                obtain ⟨q, hq⟩ : ∃ q, nn = q + 1 := ⟨nn - 1, by omega⟩
                obtain ⟨b2, o2, y, rfl, hy, hoky, hcy⟩ := (HU.out.1.up HS.out.1.below).at (j := q) (by have := HM.out.2.2; omega)
                have hKq : needK l q = y % 20 + 1 := by unfold needK; simp [List.getD, hy]
                have f3' : f.cnt = ⟨G, q, none⟩ := by rw [f3, hnn, hq]; rfl
                have f5' : f.left + s.D f.cnt = y % 20 + 1 := by rw [f5, hnn, hq]; exact hKq
                obtain ⟨dv, hdv⟩ : ∃ dv, (s.step f).D ⟨G, q, none⟩ = dv := ⟨_, rfl⟩
                have hdv2 : dv = s.D f.cnt + 1 := by rw [← hdv, ← f3']; exact hDs
                have hdk : ¬ y % 20 + 1 < dv := by omega
                have hovd : ov = decide (dv = y % 20 + 1) := by
                  rw [hov]
                  by_cases hl1 : f.left ≤ 1
                  · have : dv = y % 20 + 1 := by omega
                    simp [hl1, this]
                  · have : ¬ dv = y % 20 + 1 := by omega
                    simp [hl1, this]
                have hqc : ((f.num : Nat) : Int) = (q : Int) + 1 := by omega
                rw [hqc] at hpk
                have HPK : Hid _ := hpk
                have HPS : Hid (Pk G m m (needK l) (s.step f) ∧ (s.step f).D ⟨G, q, none⟩ = dv ∧ f ∈ s.fl ∧ f.num = nn ∧ (∀ z : Fb, z ∈ (s.step f).fl → ∃ y ∈ s.fl, z.num = y.num)) := ⟨hPs, hdv, hf, hnn, fun z hz => by
                  have hz' : z.num ∈ (s.step f).fl.map Fb.num := List.mem_map_of_mem hz
                  have := (adv_nums s f).subset hz'
                  obtain ⟨y, hy, e⟩ := List.mem_map.1 this
                  exact ⟨y, hy, e.symm⟩⟩
                have HY : Hid (∀ W, Below w.heap.size w W → W.cell? ⟨b2, o2 + q, none⟩ = some (.int .u8 y)) := fun W hW => by
                  obtain ⟨b3, o3, y3, e3, hy3, _, hc3⟩ := (HU.out.1.up hW).at (j := q) (by have := HM.out.2.2; omega)
                  rw [hy] at hy3
                  cases hy3
                  cases e3
                  have := hc3 0 _ rfl
                  simpa using this
                have hy20 : 0 ≤ y := hoky.1
                have hy256 : y < 256 := hoky.2
                have hwq : IntKind.i64.wrap (q : Int) = (q : Int) := wrap_i9 (by omega) (by omega)
                have hwy : IntKind.i64.wrap (y % 20 + 1) = y % 20 + 1 := wrap_i9 (by omega) (by omega)
                have hwy0 : IntKind.i64.wrap (y % 20) = y % 20 := wrap_i9 (by omega) (by omega)
                have hwu : IntKind.u8.wrap (y % 20) = y % 20 := wrap_b9 (by omega) (by omega)
                have htm : y.tmod 20 = y % 20 := Int.tmod_eq_emod_of_nonneg (by omega)
                have hn1 : ¬ (q : Int) + 1 < 1 := by omega
                have hn2 : ¬ (m : Int) < (q : Int) + 1 := by omega
                have hn3 : ¬ m < q + 1 := by omega
                have hn4 : ¬ m ≤ q := by omega
                have hn5 : ¬ (m : Int) ≤ (q : Int) := by omega
                have hn6 : ¬ (q : Int) < 0 := by omega
                have hn7 : (q : Int) + 1 ≤ (m : Int) := by omega
                have hqm : (q : Int) < (m : Int) := by omega
                have hqm2 : q < m := by omega
                have hq0 : (0 : Int) ≤ (q : Int) := by omega
                have HNE : Hid (db = true → ¬ (q : Int) + 1 = drop) := fun h e => HS.out.2.2.2.2 h f hf (by rw [hqc]; exact e)
                clear hpk hPs hDs f1 f2 f3 f4 f5 f3' f5' hov hdv hdv2 hcy hy hKq hfi hi hf hsm hnn hq hfl hoky hqc
                go_wp2_with fail
                refine Calls.mono HPK.out ?_
                rintro e w6 ⟨rfl, g6, h6, t6⟩
                have hL6 := HS.out.1.aft h6 t6
                have hc6 : g6.ca = ctrs G m := t6.same.2.2.2.2.trans HS.out.2.2.1
                have c6 : w6.cell? ⟨G, q, none⟩ = some (.int .i64 dv) := by
                  obtain ⟨b', i', cs, e', hb', hc'⟩ := h6.cn ⟨G, q, none⟩ (by rw [hc6]; exact mem_ctrs hqm2)
                  cases e'
                  rw [hb'.cell, hc', HPS.out.2.1]
                have y6 := HY.out w6 hL6.below
                have HN : Hid (Lw w w6 1000 g6 (s.step f) ∧ g6.S = g1.S ∧ g6.ca = ctrs G m ∧ Pk G m m (needK l) (s.step f) ∧ (db = true → ∀ f' ∈ (s.step f).fl, (f'.num : Int) ≠ drop)) := ⟨hL6, t6.same.1.trans hgS, hc6, HPS.out.1, fun h z hz => by
                  obtain ⟨y, hy, e⟩ := HPS.out.2.2.2.2 z hz
                  rw [e]
                  exact HS.out.2.2.2.2 h y hy⟩
                clear h6 t6 hL6 hc6 HPK HPS HY HS
                have hE : (ov = true ∧ dv = y % 20 + 1) ∨ (ov = false ∧ ¬ dv = y % 20 + 1) := by
                  by_cases e : dv = y % 20 + 1
                  · exact .inl ⟨by rw [hovd]; simp [e], e⟩
                  · exact .inr ⟨by rw [hovd]; simp [e], e⟩
                clear hovd
                rcases hE with ⟨hov, hde⟩ | ⟨hov, hde⟩
                all_goals
                  subst hov
                  try have hdb : (dv == y % 20 + 1) = false := beq_eq_false_iff_ne.2 hde
                  try have hne : ¬ (q : Int) + 1 = drop := HNE.out HDB.out
                  try have hne' : ((q : Int) + 1 == drop) = false := by simpa using hne
                  go_wp2_with fail
                  go_quiet (fail)
                  have HNq : Hid (Lw w (w6.drewN nq) 1000 g6 (s.step f) ∧ g6.S = g1.S ∧ g6.ca = ctrs G m ∧ Pk G m m (needK l) (s.step f) ∧ (db = true → ∀ f' ∈ (s.step f).fl, (f'.num : Int) ≠ drop)) := ⟨HN.out.1.still ⟨rfl, rfl, rfl, Nat.le_refl _, fun _ _ => rfl⟩, HN.out.2⟩
                  go_wp2_with fail
                  go_roundw
                  case rel => exact ⟨j + 1, _, _, by go_num, Nat.succ_le_of_lt hlt, hidLw HNq⟩
                  case measure => exact slot_down hlt
            · have hnl : ¬ (j : Int) < (pn : Int) := by omega
              have hst := steps_any HS.out.1.sd
              rw [hgS, HS.out.2.2.2.1.sum] at hst
              have HST : Hid _ := hst
              have HD : Hid (∀ i, i < m → wr.cell? ⟨G, i, none⟩ = some (.int .i64 (s.D ⟨G, i, none⟩)) ∧ wrap64 (sumD s.D G i + s.D ⟨G, i, none⟩) = sumD s.D G (i + 1)) := fun i hi => by
                obtain ⟨b', i', cs, e', hb', hc'⟩ := HS.out.1.sd.cn ⟨G, i, none⟩ (by rw [HS.out.2.2.1]; exact mem_ctrs hi)
                cases e'
                refine ⟨by rw [hb'.cell, hc'], ?_⟩
                have h1 := sumD_le (D := s.D) (G := G) (n := i) fun k hk => ⟨(HS.out.2.2.2.1.cnt k (by omega)).1, Int.le_trans (HS.out.2.2.2.1.cnt k (by omega)).2 (HK.out k).2⟩
                have h2 := HS.out.2.2.2.1.cnt i hi
                have h3 := (HK.out i).2
                show wrap64 (sumD s.D G i + s.D ⟨G, i, none⟩) = sumD s.D G i + s.D ⟨G, i, none⟩
                unfold wrap64
                omega
              have HE : Hid (Below w.heap.size w wr) := HS.out.1.below
              clear hst HS
              go_wp2_with fail
              go_loopw [19, 160] (fun sv iv wx => ∃ i : Nat, i ≤ m ∧ iv = .int .i64 (i : Int) ∧ sv = .int .i64 (sumD s.D G i) ∧ wx = wr) (fun _ iv _ => m - slotN iv)
              case atStart => exact ⟨0, Nat.zero_le _, rfl, rfl, rfl⟩
              case round =>
                obtain ⟨i, him, rfl, rfl, rfl⟩ := hrel
                by_cases hlt2 : i < m
                · have hli2 : (i : Int) < (m : Int) := by omega
                  have hi0 : (0 : Int) ≤ (i : Int) := by omega
                  obtain ⟨z1, z2⟩ := HD.out i hlt2
                  have HZ : Hid (wrap64 (sumD s.D G i + s.D ⟨G, i, none⟩) = sumD s.D G (i + 1)) := z2
                  generalize hsi : sumD s.D G i = S1 at *
                  generalize hdi : s.D ⟨G, i, none⟩ = D1 at *
                  generalize hs2 : sumD s.D G (i + 1) = S2 at *
                  go_wp2
                  go_roundw
                  case rel => exact ⟨i + 1, Nat.succ_le_of_lt hlt2, by go_num, by simp only [hs2, HZ.out], by trivial⟩
                  case measure => exact slot_down hlt2
                · have him2 : i = m := by omega
                  subst him2
                  have hli2 : ¬ (i : Int) < (i : Int) := by omega
                  go_wp2_with fail
                  refine Calls.mono HST.out ?_
                  rintro e w9 ⟨rfl, rfl⟩
                  go_wp2
                  go_ret
                  exact ⟨by simp, HE.out⟩

set_option maxRecDepth 100000 in
set_option maxHeartbeats 2000000 in
theorem lifted_schedPicks (os : Os) (started : os.Started) (H : Type) (enc : TypeId × Value → H) :
    ReturnsInHanded {} Try.checked os 5 .any (Rows.schedPicksSpec.pre6 enc Try.prog Try.f5 Rows.schedPicksRow.domain false) (Rows.schedPicksSpec.post enc Try.prog Try.f5 false true false false) := by
  refine returnsInHanded_of_change_sized (C := Try.checked) own started (by kernel_rfl) Try.func5
    (ChangeSpec.witness6 (enc := enc) (C := Try.checked) false ⟨#[], #[.slice none 0 0, .slice none 0 0, .int .i64 0], []⟩ 8 (by kernel_rfl) (by kernel_rfl) (by kernel_rfl) (by kernel_rfl)) ?_
  intro W base args ds gs before hval0 hW _ hsz0 _
  have hsz : (DataW.weightsEach Try.prog (Try.f5.params.toList ++ Rows.schedPicksSpec.plain.varTypes Try.prog) (ds ++ gs)).all (· ≤ reachBytes) = true := hsz0
  clear hsz0
  have hval : ∀ (j : Nat) t v, Try.f5.params[j]? = some t → args[j]? = some v → Value.okWide Try.prog W .any base t v := hval0
  have hW' := hW
  obtain ⟨p, q, hA0, hV, rfl, hfz, hnd⟩ := hW
  have hA : DataW.TrodAll enc Try.prog W 0 (fun _ => true) true Try.f5.params.toList args.toList ds p := hA0
  rw [Try.params5] at hA hval hsz
  obtain ⟨v0, vs0, d0, ds0, p0, q0, hargs, rfl, rfl, h0, r0⟩ := trodAll_cons hA
  obtain ⟨v1, vs1, d1, ds1, p1, q1, rfl, rfl, rfl, h1, r1⟩ := trodAll_cons r0
  obtain ⟨v2, vs2, d2, ds2, p2, q2, rfl, rfl, rfl, h2, r2⟩ := trodAll_cons r1
  obtain ⟨rfl, rfl, rfl⟩ := trodAll_nil r2
  obtain rfl : args = #[v0, v1, v2] := by cases args; simp_all
  obtain ⟨rfl, rfl⟩ := trodVars_none hV
  obtain ⟨a0, len0, cap0, rfl⟩ := okWide_slice Try.underlying42 (hval 0 42 v0 rfl rfl)
  have k0 := h0
  have lt0 : ∀ x ∈ p0, x.block < W.heap.size := by obtain ⟨m, hm⟩ := k0; exact DataW.trod_lt m _ _ _ hm
  obtain ⟨z0, w0⟩ : ∃ l, InU W a0 len0 cap0 l := by
    refine in_u8s h0 fun n hn => ?_
    have := of_decide_eq_true (List.all_eq_true.1 hsz _ (DataW.weights_mem_each (j := 0) (t := 42) rfl rfl n hn))
    simp only [reachBytes] at this
    omega
  obtain ⟨a1, len1, cap1, rfl⟩ := okWide_slice Try.underlying36 (hval 1 36 v1 rfl rfl)
  have k1 := h1
  have lt1 : ∀ x ∈ p1, x.block < W.heap.size := by obtain ⟨m, hm⟩ := k1; exact DataW.trod_lt m _ _ _ hm
  obtain ⟨z1, w1⟩ : ∃ l, InZ W a1 len1 cap1 l := by
    refine in_intl h1 fun n hn => ?_
    have := of_decide_eq_true (List.all_eq_true.1 hsz _ (DataW.weights_mem_each (j := 1) (t := 36) rfl rfl n hn))
    simp only [reachBytes] at this
    omega
  obtain ⟨a2, rfl, rfl, rfl, w2⟩ := open_int Try.underlying3 (hval 2 3 v2 rfl rfl) h2
  clear hA0 hval0
  refine (walk_schedPicks a0 len0 cap0 z0 a1 len1 cap1 z1 a2 W w0 w1 w2).mono fun e W' ⟨he, bel⟩ => ?_
  subst he
  exact ⟨_, rfl, _, _, _, [], _, [], hW', trodAll_mk1 (shut_bool Try.underlying4 _), (trodAll_cons_mk (Below.trod laidOut (by kernel_rfl) (of_decide_eq_true (by kernel_rfl)) k0 bel lt0) (trodAll_cons_mk (Below.trod laidOut (by kernel_rfl) (of_decide_eq_true (by kernel_rfl)) k1 bel lt1) (trodAll_cons_mk (shut_int Try.underlying3 w2) trodAll_mk0))), rfl, bel.frame _, fun h => by cases h⟩

/-- The statement. -/
theorem schedPicks_holds : Rows.SchedPicksSaid :=
  OpenClaim.holds_of_wide 5 Try.f5 rfl rfl rfl rfl rfl rfl rfl ⟨rfl, rfl, rfl, rfl, rfl⟩ rfl rfl rfl rfl rfl (by kernel_rfl) Try.func5 (by kernel_rfl)
    (of_decide_eq_true (by kernel_rfl)) (by unfold Func.isWrapper; first | (rw [if_pos (by decide +kernel)]; kernel_rfl) | (rw [if_neg (by decide +kernel)]; exact ⟨rfl, rfl⟩))
    (fun os started H enc _ => lifted_schedPicks os started H enc)
#print axioms schedPicks_holds
end Go.Proofs.Ytpjcclmmplddeaa
