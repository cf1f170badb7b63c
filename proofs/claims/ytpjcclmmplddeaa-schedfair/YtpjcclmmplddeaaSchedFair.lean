/- Whatever number of steps each of up to sixty fibers needs, a run of as many steps as there are fibers, as often as the most that one needs, finishes all, each behind just its own steps, and each is told once as finished. -/
import Derived.Test.YtpjcclmmplddeaaSdFs
namespace Go.Proofs.Ytpjcclmmplddeaa
open Go.ChangeShapes Go.WideShapes Go.ChangeAt Go.RowKit Go.Maps
open Go.ChangeMaps (open_string shut_string)
set_option linter.unusedVariables false
set_option maxRecDepth 100000

/-- While they are spawned. -/
structure Fj (w wr : World) (g1 : Ge) (G m : Nat) (l : List Int) (j : Nat) (mo su : Int) (g : Ge) (s : Sc) : Prop where
  lw : Lw w wr 1000 g s
  same : g.S = g1.S ∧ g.M = g1.M ∧ g.ca = ctrs G m
  pk : Pk G m j (needK l) s
  all : s.all j
  D0 : s.D = fun _ => 0
  box : s.box = []
  dn : ∀ i, s.done.getD i 0 = 0
  ln : s.fl.length = j
  mo1 : 1 ≤ mo ∧ mo ≤ 20
  moK : ∀ i, i < j → needK l i ≤ mo
  su : su = sumF (needK l) j

theorem Fj.pf {w wr : World} {g1 : Ge} {G m : Nat} {l : List Int} {mo su : Int} {g : Ge} {s : Sc} (h : Fj w wr g1 G m l m mo su g s) : Pf G m (needK l) s where
  len := h.pk.len
  rs := h.lw.sd.rs
  fib := h.pk.fib
  cnt := h.pk.cnt
  sum := h.pk.sum
  of := fun i _ => by rw [h.dn, h.D0]
  fin := fun i hi => .inl (h.all (i + 1) (by omega) (by omega))
  nd := by rw [h.box]; simp
  bx := by rw [h.box]; simp
  tot := by rw [h.box, h.ln]; rfl

theorem Fj.left {w wr : World} {g1 : Ge} {G m : Nat} {l : List Int} {mo su : Int} {g : Ge} {s : Sc} (h : Fj w wr g1 G m l m mo su g s) : ∀ f ∈ s.fl, f.left ≤ mo := fun f hf => by
  have h1 := h.pk.fib f hf
  have h2 := h.moK (f.num - 1) (by omega)
  have h3 := h1.2.2.2.2
  rw [h.D0] at h3
  simp at h3
  omega

theorem spawnM {w0 w : World} {N : Nat} {g : Ge} {s : Sc} (h : Lw w0 w N g s) {left : Int} {cnt : Addr} (hc : cnt ∈ g.ca) (hroom : s.fl.length + s.box.length < s.room) (hdl : s.done.length ≤ 10000000000000) (hr : s.rest) (hN : s.done.length + 1 < N) :
    Calls Try.prog 18 #[.pointer (some ⟨g.S, 0, none⟩), fv w.heap.size] (w.alloc (.cells #[.int .i64 left, .pointer (some cnt)] 48)) fun e w' => e = .returned (.tuple #[.int .i64 ((s.done.length + 1 : Nat) : Int), .int .i64 0]) ∧ ∃ g', Lw w0 w' N g' (s.spawned w.heap.size left cnt) ∧ g'.S = g.S ∧ g'.M = g.M ∧ g'.ca = g.ca := by
  have hb : Below w.heap.size w (w.alloc (.cells #[.int .i64 left, .pointer (some cnt)] 48)) := (Below.refl _ w).alloc (Nat.le_refl _) _
  have h1 := h.still hb
  have hal : s.al.length ≤ 10000000000000 := by have := h.sd.len hr; omega
  refine (spawn_any h1.sd (Bk.new w _ _) (fun x hx e => ?_) hc hroom hdl hal hN).mono ?_
  · have := (h.sd.fb x hx).lt
    omega
  · rintro e w' ⟨rfl, g', h2, t, hs, hbs, hsub⟩
    refine ⟨rfl, g', ⟨h2, fun x hx => ?_, h1.below.trans (t.below h1.below.size h1.fr)⟩, hs.1, hs.2.1, hs.2.2.2.2⟩
    rcases hsub x hx with h3 | h3 | h3
    · exact h1.fr x h3
    · rw [h3]; exact h.below.size
    · exact Nat.le_trans h1.below.size h3

theorem hidLw {p : Prop} (h : Hid p) : Hid p := h
theorem slot_down {m j : Nat} (h : j < m) : m - slotN (Value.int .i64 ((j : Int) + 1)) < m - slotN (Value.int .i64 (j : Int)) := by
  have e : slotN (Value.int .i64 ((j : Int) + 1)) = j + 1 := slotN_int (j + 1)
  have e2 := slotN_int j
  omega
theorem fair_wrap {B : Nat} (h : B ≤ 1200) : wrap64 (B : Int) = (B : Int) := by unfold wrap64; omega
theorem fair_mul {m : Nat} {mo : Int} (hm : m ≤ 60) (h1 : 1 ≤ mo) (h2 : mo ≤ 20) : ∃ Bm r : Nat, mo = (r : Int) ∧ Bm = m * r ∧ (m : Int) * mo = (Bm : Int) ∧ Bm ≤ 1200 := by
  obtain ⟨r, hr⟩ : ∃ r : Nat, mo = (r : Int) := ⟨mo.toNat, by omega⟩
  refine ⟨m * r, r, hr, rfl, by rw [hr]; simp, ?_⟩
  calc m * r ≤ 60 * 20 := Nat.mul_le_mul hm (by omega)
    _ = 1200 := rfl

set_option maxHeartbeats 8000000 in
theorem walk_schedFair (a : Option Addr) (len cap : Nat) (l : List Int) (w : World) (hU : InU w a len cap l) :
    Calls Try.prog 4 #[.slice a len cap] w fun e w' => e = .returned (.bool true) ∧ Below w.heap.size w w' := by
  have HU : Hid (InU w a len cap l) := hU
  have hlc := hU.le
  have hlb := hU.room
  clear hU
  go_enter Try.func4, Try.ntmps4
  go_wp2_with fail
  refine (new_any 4096 (by omega) (by omega) 1000 (by omega) (fun _ => 0) w).mono ?_
  rintro e w1 ⟨g1, rfl, h1, hb1, hca, hbs, hfr, hX⟩
  have HL1 : Hid (Lw w w1 1000 g1 (Sc.new 4096 fun _ => 0) ∧ g1.ca = []) := ⟨⟨h1, hfr, hb1⟩, hca⟩
  clear h1 hb1 hca hbs hfr hX
  go_wp2_with fail
  refine (begun_any _).mono ?_
  rintro e w2 ⟨rfl, hb2⟩
  have HL2 : Hid (Lw w w2 1000 g1 (Sc.new 4096 fun _ => 0) ∧ g1.ca = []) := ⟨HL1.out.1.still hb2, HL1.out.2⟩
  clear HL1 hb2
  obtain ⟨m, hm⟩ : ∃ m, m = min len 60 := ⟨_, rfl⟩
  have hmin : min ((len : Nat) : Int) 60 = ((m : Nat) : Int) := by omega
  have HM : Hid (m = min len 60 ∧ m ≤ 60 ∧ m ≤ len) := ⟨hm, by omega, by omega⟩
  have hm60 : m ≤ 60 := by omega
  have hmc : m ≤ cap := by omega
  obtain ⟨i0, hi, hz0, hz1, hz2⟩ := info_parts i64info
  have HK : Hid (∀ i, 1 ≤ needK l i ∧ needK l i ≤ 20) := needK_le HU.out.ok
  clear hm
  go_wp2_with (at_make; refine wpList_make_full _ rfl _ _ 43 rfl w2.heap.size 2 i0 (.int .i64 0) 1 Try.underlying43 hi hz0 hz1 .i64 .i64 _ _ m rfl rfl rfl rfl (by rw [hz2]; omega) (by unfold maxLen; omega) (Nat.le_refl _) ?_; intro w3 hown3 hg3; refine Hid.out ?_)
  unfold Hid
  obtain ⟨G, HG⟩ : ∃ G, Hid (w2.heap.size = G) := ⟨_, rfl⟩
  rw [HG.out] at hown3 ⊢
  have HL3 : Hid (Lw w w3 1000 { g1 with ca := ctrs G m } (Sc.new 4096 fun _ => 0)) := by
    have hb3 : Below w2.heap.size w2 w3 := ⟨hg3.os, hg3.tape, hg3.output, hg3.size, fun k hk => hg3.block k hk (by simp)⟩
    have h3 := HL2.out.1.still hb3
    have hs := HL2.out.1.below.size
    have hvd : ∀ k, g1.vd.ownBlock = some k → k < w2.heap.size := fun k hk => row_block HL2.out.1.sd.dn k hk
    obtain ⟨cs, hcs⟩ := row_bk hown3 (k := G) rfl
    have := h3.addC (ctrs G m) (fun a ha => by
      obtain ⟨i, hi, rfl⟩ := List.mem_map.1 ha
      have hi' : i < m := by simpa using hi
      refine ⟨by show _ ≤ G; rw [← HG.out]; exact hs, fun e => ?_, G, i, cs, rfl, hcs, ?_⟩
      · have := hvd _ e
        rw [HG.out] at this
        exact Nat.lt_irrefl _ this
      · have h1 := hcs.cell i
        rw [hown3.cellAt i (by omega), Nat.mul_one, show (Value.int .i64 0).cells = #[.int .i64 0] from rfl, toList_madeCells_one] at h1
        rw [← h1]
        simp [hi', Sc.new])
    rw [HL2.out.2, List.nil_append] at this
    exact this
  clear hown3 hg3 HL2
  go_wp2_with fail
  go_loopw [7, 8, 47] (fun mv sv iv wr => ∃ (j : Nat) (mo su : Int) (g : Ge) (s : Sc), mv = .int .i64 mo ∧ sv = .int .i64 su ∧ iv = .int .i64 (j : Int) ∧ j ≤ m ∧ Hid (Fj w wr g1 G m l j mo su g s)) (fun _ _ iv _ => m - slotN iv)
  case atStart =>
    refine ⟨0, 1, 0, _, _, rfl, rfl, rfl, Nat.zero_le _, HL3.out, ⟨rfl, rfl, rfl⟩, ⟨rfl, rfl, rfl, (fun f hf => by cases hf), fun i hi => ?_, ?_, by simp [Sc.new]⟩, (fun i h1 h2 => by omega), rfl, rfl, (fun i => rfl), rfl, by omega, (fun i hi => by omega), rfl⟩
    · have := HK.out i
      simp [Sc.new]
      omega
    · show (0 : Int) = _
      have : ∀ n, sumD (fun _ => 0) G n = 0 := fun n => by
        induction n with
        | zero => rfl
        | succ n ih => simp [sumD, ih]
      exact (this m).symm
  case round =>
    obtain ⟨j, mo, su, g, s, rfl, rfl, rfl, hj, HS⟩ := hrel
    by_cases hlt : j < m
    · have hli : (j : Int) < (m : Int) := by omega
      have hj0 : (0 : Int) ≤ (j : Int) := by omega
      obtain ⟨b, o, x, rfl, hx, hok, hcx⟩ := (HU.out.up HS.out.lw.below).at (j := j) (by have := HM.out.2.2; omega)
      have z0 : wr.cell? ⟨b, o + j, none⟩ = some (.int .u8 x) := by
        have := hcx 0 _ rfl
        simpa using this
      have hKj : needK l j = x % 20 + 1 := by unfold needK; simp [List.getD, hx]
      have hsp := spawnM (left := needK l j) (cnt := ⟨G, j, none⟩) HS.out.lw (by rw [HS.out.same.2.2]; exact mem_ctrs hlt) (by have := HS.out.pk.fit; have := HS.out.pk.room; omega) (by rw [HS.out.pk.len]; omega) HS.out.pk.rest (by rw [HS.out.pk.len]; omega)
      rw [HS.out.same.1, HS.out.pk.len, hKj, show ((j + 1 : Nat) : Int) = (j : Int) + 1 by omega] at hsp
      have HSP : Hid _ := hsp
      have hsb := sumF_le HK.out j
      have hsu := HS.out.su
      have hmo := HS.out.mo1
      have hsu0 : 0 ≤ su := by rw [hsu]; exact hsb.1
      have hsu1 : su ≤ 1200 := by
        rw [hsu]
        have := hsb.2
        omega
      have hmo1 : 1 ≤ mo := hmo.1
      have hmo2 : mo ≤ 20 := hmo.2
      have hkb := HK.out j
      have HN0 : Hid ((1 ≤ max mo (x % 20 + 1) ∧ max mo (x % 20 + 1) ≤ 20) ∧ mo ≤ max mo (x % 20 + 1) ∧ x % 20 + 1 ≤ max mo (x % 20 + 1) ∧ su + (x % 20 + 1) = sumF (needK l) (j + 1)) := by
        rw [hKj] at hkb
        refine ⟨by omega, by omega, by omega, ?_⟩
        show su + (x % 20 + 1) = sumF (needK l) j + needK l j
        rw [hKj, ← hsu]
      have hy20 : 0 ≤ x := hok.1
      have hy256 : x < 256 := hok.2
      clear hsp hcx hsb hsu hkb hmo
      go_wp2_with fail
      refine Calls.mono HSP.out ?_
      rintro e w4 ⟨rfl, g4, hL4, hS4, hM4, hc4⟩
      have HN : Hid (Fj w w4 g1 G m l (j + 1) (max mo (x % 20 + 1)) (su + (x % 20 + 1)) g4 (s.spawned wr.heap.size (x % 20 + 1) ⟨G, j, none⟩)) := by
        have hp := HS.out.pk.spawn HS.out.all hlt (fb := wr.heap.size) (by rw [HS.out.D0]) (HK.out j).1
        rw [hKj] at hp
        refine ⟨hL4, ⟨hS4, hM4.trans HS.out.same.2.1, hc4.trans HS.out.same.2.2⟩, hp.1, hp.2, HS.out.D0, HS.out.box, fun i => ?_, ?_, HN0.out.1, fun i hi => ?_, HN0.out.2.2.2⟩
        · have hd := HS.out.dn i
          show (s.done ++ [0]).getD i 0 = 0
          by_cases hil : i < s.done.length
          · simp only [List.getD, List.getElem?_append_left hil]
            exact hd
          · by_cases hie : i = s.done.length
            · simp [List.getD, hie]
            · simp [List.getD, List.getElem?_append_right (Nat.le_of_not_lt hil), List.getElem?_eq_none (show [(0 : Int)].length ≤ i - s.done.length by simp; omega)]
        · show (s.fl ++ [_]).length = j + 1
          simp [HS.out.ln]
        · by_cases e : i = j
          · rw [e, hKj]; exact HN0.out.2.2.1
          · exact Int.le_trans (HS.out.moK i (Nat.lt_of_le_of_ne (Nat.le_of_lt_succ hi) e)) HN0.out.2.1
      clear hL4 hS4 hM4 hc4 HSP z0 hKj hok hx HN0 HS
      go_wp2
      go_roundw
      case rel => exact ⟨j + 1, max mo (x % 20 + 1), su + (x % 20 + 1), _, _, rfl, rfl, rfl, Nat.succ_le_of_lt hlt, HN⟩
      case measure => exact slot_down hlt
    · have hje : j = m := by omega
      have HS2 : Hid (Fj w wr g1 G m l m mo su g s) := hje ▸ HS
      have hnli : ¬ (j : Int) < (m : Int) := by omega
      clear HS
      obtain ⟨Bm, r, hmr, hBm, hmul, hBb⟩ := fair_mul hm60 HS2.out.mo1.1 HS2.out.mo1.2
      have hmulw : wrap64 ((m : Int) * mo) = (Bm : Int) := (congrArg wrap64 hmul).trans (fair_wrap hBb)
      obtain ⟨d, s', hR, hfl, hPf, hrest, hsteps, hroom⟩ := fair hm60 (fun i => (HK.out i).2) r s HS2.out.pf HS2.out.pk.rest (fun f hf => hmr ▸ HS2.out.left f hf) Bm (by omega)
      have hsum : s'.steps = sumF (needK l) m := by
        rw [hPf.sum]
        refine sumD_F fun i hi => ?_
        rcases hPf.fin i hi with ⟨f, hf, -⟩ | h1
        · rw [hfl] at hf; cases hf
        · exact h1
      have hs0 : s.steps = 0 := by
        rw [HS2.out.pk.sum, HS2.out.D0]
        have : ∀ n, sumD (fun _ => 0) G n = 0 := fun n => by
          induction n with
          | zero => rfl
          | succ n ih => simp [sumD, ih]
        exact this m
      have hds : (d : Int) = su := by rw [HS2.out.su, ← hsum, hsteps, hs0]; simp
      have hrn := run_any HS2.out.lw.sd HS2.out.pk.rest (HS2.out.pk.small (Nat.le_refl _) (fun i => (HK.out i).2)) (by rw [HS2.out.pk.len]; omega) (m := (Bm : Int)) (by omega) (by rw [Int.toNat_natCast]; exact hR) (ob := true) (by rw [hfl]; rfl)
      rw [HS2.out.same.1, hds] at hrn
      have HRN : Hid _ := hrn
      have HP : Hid (Pf G m (needK l) s' ∧ s'.fl = [] ∧ s'.steps = su ∧ s'.rest ∧ s'.box.length = m) := ⟨hPf, hfl, by rw [hsum]; exact HS2.out.su.symm, hrest, by have := hPf.tot; rw [hfl] at this; simpa using this⟩
      clear hrn hR hfl hPf hrest hsteps hroom hsum hs0 hds hBm hmr
      go_wp2_with fail
      refine Calls.mono HRN.out ?_
      rintro e w5 ⟨rfl, g5, h5, t5⟩
      have HL5 : Hid (Lw w w5 1000 g5 s' ∧ g5.S = g1.S ∧ g5.M = g1.M ∧ g5.ca = ctrs G m) := ⟨HS2.out.lw.aft h5 t5, t5.same.1.trans HS2.out.same.1, t5.same.2.1.trans HS2.out.same.2.1, t5.same.2.2.2.2.trans HS2.out.same.2.2⟩
      have hct := count_any h5 0 (by rw [HP.out.2.1]; rfl)
      have hst := steps_any h5
      rw [HL5.out.2.1] at hct
      rw [HL5.out.2.1, HP.out.2.2.1] at hst
      have HCT : Hid _ := hct
      have HST : Hid _ := hst
      clear hct hst h5 t5 HRN HS2
      go_wp2_with fail
      refine Calls.mono HCT.out ?_
      rintro e w6 ⟨rfl, rfl⟩
      go_wp2_with fail
      refine Calls.mono HST.out ?_
      rintro e w6 ⟨rfl, rfl⟩
      have hmm := @run_makeMap Try.prog
      clear HCT HST
      obtain ⟨M2, HM2⟩ : ∃ M2, Hid (w6.heap.size = M2) := ⟨_, rfl⟩
      obtain ⟨w7, hw7⟩ : ∃ w7, w6.alloc (.map #[] 0) = w7 := ⟨_, rfl⟩
      have HM3 : Hid (w.heap.size ≤ M2) := by unfold Hid; rw [← HM2.out]; exact HL5.out.1.below.size
      have HL7 : Hid (Lw w w7 1000 g5 { s' with box := s'.box.drop 0 } ∧ Mp bElem w7 M2 1000 (seenF (s'.box.take 0)) ∧ g5.M ≠ M2 ∧ g5.S = g1.S ∧ g5.ca = ctrs G m) := by
        refine ⟨?_, ?_, ?_, HL5.out.2.1, HL5.out.2.2.2⟩
        · rw [← hw7]
          exact HL5.out.1.still ((Below.refl _ w6).alloc (Nat.le_refl _) _)
        · rw [List.take_zero, seenF_nil, ← hw7, ← HM2.out]
          exact Mp.new bElem w6 1000
        · rw [← HM2.out]
          have := HL5.out.1.sd.mp.lt
          omega
      go_wp2_with fail
      rw [HM2.out]
      go_loopw [113] (fun iv wr => ∃ (j : Nat) (g : Ge), iv = .int .i64 (j : Int) ∧ j ≤ m ∧ Hid (Lw w wr 1000 g { s' with box := s'.box.drop j } ∧ Mp bElem wr M2 1000 (seenF (s'.box.take j)) ∧ g.M ≠ M2 ∧ g.S = g1.S ∧ g.ca = ctrs G m)) (fun iv _ => m - slotN iv)
      case atStart => exact ⟨0, g5, rfl, Nat.zero_le _, HL7⟩
      case round =>
        clear HL7 HL5 hw7
        obtain ⟨j, g, rfl, hj, HS⟩ := hrel
        by_cases hlt : j < m
        · have hli : (j : Int) < (m : Int) := by omega
          have hj0 : (0 : Int) ≤ (j : Int) := by omega
          obtain ⟨b, o, x, rfl, hx, hok, hcx⟩ := (HU.out.up HS.out.1.below).at (j := j) (by have := HM.out.2.2; omega)
          have z0 : wr.cell? ⟨b, o + j, none⟩ = some (.int .u8 x) := by
            have := hcx 0 _ rfl
            simpa using this
          have hKj : needK l j = x % 20 + 1 := by unfold needK; simp [List.getD, hx]
          have hjb : j < s'.box.length := by rw [HP.out.2.2.2.2]; exact hlt
          obtain ⟨n, hn⟩ : ∃ n, s'.box[j]? = some n := ⟨_, List.getElem?_eq_getElem hjb⟩
          have hdrop : s'.box.drop j = n :: s'.box.drop (j + 1) := by
            rw [List.drop_eq_getElem_cons hjb]
            rw [List.getElem?_eq_getElem hjb] at hn
            cases hn
            rfl
          have htake : s'.box.take (j + 1) = s'.box.take j ++ [n] := take_snoc hn
          have hfn := finished_any HS.out.1.sd (n := n) (r := s'.box.drop (j + 1)) hdrop
          rw [HS.out.2.2.2.1] at hfn
          have HFN : Hid _ := hfn
          have hnb := HP.out.1.bx n (List.mem_of_getElem? hn)
          have hnin : n ∉ s'.box.take j := by
            intro hm
            have hnd := (List.take_sublist (j + 1) s'.box).nodup HP.out.1.nd
            rw [htake, List.nodup_append] at hnd
            exact hnd.2.2 n hm n (by simp) rfl
          have hDj : s'.D ⟨G, j, none⟩ = x % 20 + 1 := by
            rcases HP.out.1.fin j hlt with ⟨f, hf, -⟩ | h1
            · rw [HP.out.2.1] at hf; cases hf
            · rw [h1, hKj]
          have HQ : Hid (s'.done.getD j 0 = x % 20 + 1 ∧ s'.D ⟨G, j, none⟩ = x % 20 + 1 ∧ n ∉ s'.box.take j ∧ s'.box.take (j + 1) = s'.box.take j ++ [n] ∧ s'.done.length = m ∧ 1 ≤ n ∧ n ≤ m) := ⟨(HP.out.1.of j hlt).trans hDj, hDj, hnin, htake, HP.out.1.len, hnb.1, hnb.2.1⟩
          have hn1 : ¬ (n : Int) < 1 := by omega
          have hn2 : ¬ (m : Int) < (n : Int) := by omega
          have hn3 : ¬ m < n := by omega
          have hn4 : ¬ n < 1 := by omega
          have hn5 : ¬ n = 0 := by omega
          have hy20 : 0 ≤ x := hok.1
          have hy256 : x < 256 := hok.2
          have hwy : IntKind.i64.wrap (x % 20 + 1) = x % 20 + 1 := wrap_i9 (by omega) (by omega)
          have hwy0 : IntKind.i64.wrap (x % 20) = x % 20 := wrap_i9 (by omega) (by omega)
          have hwu : IntKind.u8.wrap (x % 20) = x % 20 := wrap_b9 (by omega) (by omega)
          have htm : x.tmod 20 = x % 20 := Int.tmod_eq_emod_of_nonneg (by omega)
          have hwj : IntKind.i64.wrap ((j : Int) + 1) = (j : Int) + 1 := wrap_i9 (by omega) (by omega)
          clear hfn hcx hx hKj hn hdrop htake hnb hnin hDj hok
          go_wp2_with fail
          refine Calls.mono HFN.out ?_
          rintro e w8 ⟨rfl, g8, h8, t8⟩
          have hL8 := HS.out.1.aft h8 t8
          have hm8 : Mp bElem w8 M2 1000 (seenF (s'.box.take j)) := HS.out.2.1.tn t8.tn (HS.out.1.sd.notIn HS.out.2.1 HS.out.2.2.1)
          have hc8 : g8.ca = ctrs G m := t8.same.2.2.2.2.trans HS.out.2.2.2.2
          have c8 : w8.cell? ⟨G, j, none⟩ = some (.int .i64 (x % 20 + 1)) := by
            obtain ⟨b', i', cs, e', hb', hc'⟩ := h8.cn ⟨G, j, none⟩ (by rw [hc8]; exact mem_ctrs hlt)
            cases e'
            rw [hb'.cell, hc']
            exact congrArg (fun z => some (Value.int .i64 z)) HQ.out.2.1
          have hS8 : g8.S = g1.S := t8.same.1.trans HS.out.2.2.2.1
          have HOF : Hid (∀ k, Calls Try.prog 15 #[.pointer (some ⟨g1.S, 0, none⟩), .int .i64 ((j : Int) + 1)] (w8.drewN k) fun e w' => e = .returned (.int .i64 (x % 20 + 1)) ∧ w' = w8.drewN k) := fun k => by
            have := of_eq (h8.drew k) ((j : Int) + 1) (by omega) (by show s'.done.length ≤ _; rw [HQ.out.2.2.2.2.1]; omega)
            rw [hS8] at this
            rw [if_pos (by show 1 ≤ _ ∧ _ ≤ ((s'.done.length : Nat) : Int); rw [HQ.out.2.2.2.2.1]; omega)] at this
            have e2 : ((j : Int) + 1 - 1).toNat = j := by omega
            rw [e2, show ({ s' with box := s'.box.drop (j + 1) } : Sc).done.getD j 0 = x % 20 + 1 from HQ.out.1] at this
            exact this
          have hlk : ∀ k, (Instr.lookup 51 (.map (some M2)) (.int .i64 (n : Int)) false).run Try.prog (w8.drewN k) = .ok (.bool false) (w8.drewN k) := fun k => by
            have := (hm8.tn (⟨rfl, rfl, rfl, Nat.le_refl _, fun _ _ _ => rfl⟩ : Tn [] w8 (w8.drewN k)) (by simp)).look1 bReads (t := 51) Try.underlying51 (bZero _) (n : Int) (WalkArith.wf_i64 (by omega))
            rw [getI_nat _ _ _ (by omega)] at this
            simpa [seenF, HQ.out.2.2.1] using this
          have HR8 : Hid (Lw w w8 1000 g8 { s' with box := s'.box.drop (j + 1) } ∧ Mp bElem w8 M2 1000 (seenF (s'.box.take j)) ∧ g8.M ≠ M2 ∧ g8.S = g1.S ∧ g8.ca = ctrs G m) := ⟨hL8, hm8, by rw [t8.same.2.1]; exact HS.out.2.2.1, hS8, hc8⟩
          clear h8 t8 hL8 hm8 hc8 hS8 HFN HS
          go_wp2_with fail
          go_quiet (first
            | (go_at_call 15; refine Calls.quiet_of_same (HOF.out _)))
          obtain ⟨wq, hwq⟩ : ∃ wq, w8.drewN nq = wq := ⟨_, rfl⟩
          have hLq : Lw w wq 1000 g8 { s' with box := s'.box.drop (j + 1) } := hwq ▸ HR8.out.1.still ⟨rfl, rfl, rfl, Nat.le_refl _, fun _ _ => rfl⟩
          have hmq : Mp bElem wq M2 1000 (seenF (s'.box.take j)) := hwq ▸ HR8.out.2.1.tn (⟨rfl, rfl, rfl, Nat.le_refl _, fun _ _ _ => rfl⟩ : Tn [] w8 (w8.drewN nq)) (by simp)
          rw [hwq]
          obtain ⟨w9, hput, hm9, t9⟩ := hmq.put bReads (t := 51) Try.underlying51 n (by omega) (by omega) true
          have HN : Hid (Lw w w9 1000 g8 { s' with box := s'.box.drop (j + 1) } ∧ Mp bElem w9 M2 1000 (seenF (s'.box.take (j + 1))) ∧ g8.M ≠ M2 ∧ g8.S = g1.S ∧ g8.ca = ctrs G m) := by
            refine ⟨⟨hLq.sd.tnMap hmq HR8.out.2.2.1 t9, hLq.fr, hLq.below.trans (t9.below hLq.below.size (fun y hy => ?_))⟩, ?_, HR8.out.2.2⟩
            · simp at hy
              rw [hy]
              exact HM3.out
            · rw [HQ.out.2.2.2.1, seenF_app]
              exact hm9
          clear hLq hmq hm9 t9 hwq hlk HOF HR8 c8
          go_wp2
          go_roundw
          case rel => exact ⟨j + 1, _, by go_num, by omega, hidLw HN⟩
          case measure => exact slot_down hlt
        · have hje2 : j = m := by omega
          have hnl : ¬ (j : Int) < (m : Int) := by omega
          have hfn := finished_none HS.out.1.sd (by show s'.box.drop j = []; rw [List.drop_eq_nil_of_le (by rw [HP.out.2.2.2.2]; omega)])
          rw [HS.out.2.2.2.1] at hfn
          have HFN : Hid _ := hfn
          have HE : Hid (Below w.heap.size w wr) := HS.out.1.below
          clear hfn HS
          go_wp2_with fail
          refine Calls.mono HFN.out ?_
          rintro e w9 ⟨rfl, rfl⟩
          go_wp2
          go_ret
          exact ⟨rfl, HE.out⟩

set_option maxRecDepth 100000 in
set_option maxHeartbeats 2000000 in
theorem lifted_schedFair (os : Os) (started : os.Started) (H : Type) (enc : TypeId × Value → H) :
    ReturnsInHanded {} Try.checked os 4 .any (Rows.schedFairSpec.pre6 enc Try.prog Try.f4 Rows.schedFairRow.domain false) (Rows.schedFairSpec.post enc Try.prog Try.f4 false true false false) := by
  refine returnsInHanded_of_change_sized (C := Try.checked) own started (by kernel_rfl) Try.func4
    (ChangeSpec.witness6 (enc := enc) (C := Try.checked) false ⟨#[], #[.slice none 0 0], []⟩ 8 (by kernel_rfl) (by kernel_rfl) (by kernel_rfl) (by kernel_rfl)) ?_
  intro W base args ds gs before hval0 hW _ hsz0 _
  have hsz : (DataW.weightsEach Try.prog (Try.f4.params.toList ++ Rows.schedFairSpec.plain.varTypes Try.prog) (ds ++ gs)).all (· ≤ reachBytes) = true := hsz0
  clear hsz0
  have hval : ∀ (j : Nat) t v, Try.f4.params[j]? = some t → args[j]? = some v → Value.okWide Try.prog W .any base t v := hval0
  have hW' := hW
  obtain ⟨p, q, hA0, hV, rfl, hfz, hnd⟩ := hW
  have hA : DataW.TrodAll enc Try.prog W 0 (fun _ => true) true Try.f4.params.toList args.toList ds p := hA0
  rw [Try.params4] at hA hval hsz
  obtain ⟨v0, vs0, d0, ds0, p0, q0, hargs, rfl, rfl, h0, r0⟩ := trodAll_cons hA
  obtain ⟨rfl, rfl, rfl⟩ := trodAll_nil r0
  obtain rfl : args = #[v0] := by cases args; simp_all
  obtain ⟨rfl, rfl⟩ := trodVars_none hV
  obtain ⟨a0, len0, cap0, rfl⟩ := okWide_slice Try.underlying42 (hval 0 42 v0 rfl rfl)
  have k0 := h0
  have lt0 : ∀ x ∈ p0, x.block < W.heap.size := by obtain ⟨m, hm⟩ := k0; exact DataW.trod_lt m _ _ _ hm
  obtain ⟨z0, w0⟩ : ∃ l, InU W a0 len0 cap0 l := by
    refine in_u8s h0 fun n hn => ?_
    have := of_decide_eq_true (List.all_eq_true.1 hsz _ (DataW.weights_mem_each (j := 0) (t := 42) rfl rfl n hn))
    simp only [reachBytes] at this
    omega
  clear hA0 hval0
  refine (walk_schedFair a0 len0 cap0 z0 W w0).mono fun e W' ⟨he, bel⟩ => ?_
  subst he
  exact ⟨_, rfl, _, _, _, [], _, [], hW', trodAll_mk1 (shut_bool Try.underlying4 _), (trodAll_cons_mk (Below.trod laidOut (by kernel_rfl) (of_decide_eq_true (by kernel_rfl)) k0 bel lt0) trodAll_mk0), rfl, bel.frame _, fun h => by cases h⟩

/-- The statement. -/
theorem schedFair_holds : Rows.SchedFairSaid :=
  OpenClaim.holds_of_wide 4 Try.f4 rfl rfl rfl rfl rfl rfl rfl ⟨rfl, rfl, rfl, rfl, rfl⟩ rfl rfl rfl rfl rfl (by kernel_rfl) Try.func4 (by kernel_rfl)
    (of_decide_eq_true (by kernel_rfl)) (by unfold Func.isWrapper; first | (rw [if_pos (by decide +kernel)]; kernel_rfl) | (rw [if_neg (by decide +kernel)]; exact ⟨rfl, rfl⟩))
    (fun os started H enc _ => lifted_schedFair os started H enc)
#print axioms schedFair_holds
end Go.Proofs.Ytpjcclmmplddeaa
