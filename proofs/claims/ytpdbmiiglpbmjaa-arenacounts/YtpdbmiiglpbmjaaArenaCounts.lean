/- Of an arena of numbers: live and free slots are all: puts are taken as long as one is free, and refused else; for whatever number of slots from 1 to 40, and whatever is freed. -/
import Derived.Test.YtpdbmiiglpbmjaaArBegun
import Derived.Test.YtpdbmiiglpbmjaaArA7I
import Derived.Test.YtpdbmiiglpbmjaaArPure
import Derived.Test.YtpdbmiiglpbmjaaArRow
import Derived.Test.YtpdbmiiglpbmjaaArOpen
namespace Go.Proofs.Ytpdbmiiglpbmjaa
open Go.ChangeShapes Go.WideShapes Go.ChangeAt Go.RowKit
open Go.ChangeMaps (open_string shut_string)
set_option linter.unusedVariables false
set_option maxRecDepth 100000

/-- While slots are given one behind the other. -/
structure Cn1 (w wr : World) (n B k : Nat) (us : List Sl) (v : Value) (l : List (Int × Int)) : Prop where
  ar : AsI w.heap.size wr B ⟨n, us, 0⟩ v.ownBlock.toList
  len : us.length = k
  liv : live us = k
  gens : ∀ s ∈ us, s.gen = 1
  row : Hr wr v l
  ll : l.length = k
  hs : ∀ i, i < k → l.getD i (0, 0) = ((i : Int), 1)
  bel : Below w.heap.size w wr
  vb : ∀ g, v.ownBlock = some g → w.heap.size ≤ g

theorem Cn1.start {w w1 w2 : World} {n : Nat} (h : AsI w.heap.size w1 w.heap.size (Ar.fresh n) []) (hb : Below w.heap.size w w1) (hb2 : Below w1.heap.size w1 w2) : Cn1 w w2 n w.heap.size 0 [] (.slice none 0 0) [] :=
  { ar := h.below hb2, len := rfl, liv := rfl, gens := (fun s hs => by cases hs), row := Hr.nil _, ll := rfl, hs := (fun i hi => by omega), bel := hb.trans (hb2.mono hb.size), vb := (fun g hg => by cases hg) }

theorem Cn1.low1 {w wr : World} {n B k : Nat} {us : List Sl} {v : Value} {l : List (Int × Int)} (h : Cn1 w wr n B k us v l) : low us = k := by rw [low_of_live (by rw [h.liv, h.len]), h.len]

theorem Cn1.gen1 {w wr : World} {n B k : Nat} {us : List Sl} {v : Value} {l : List (Int × Int)} (h : Cn1 w wr n B k us v l) : (⟨n, us, 0⟩ : Ar).gen = 1 := by
  unfold Ar.gen
  rw [if_neg (by rw [h.low1, h.len]; omega)]

/-- One more slot, and its handle's box. -/
theorem Cn1.put {w wr w1 : World} {n B k : Nat} {us : List Sl} {v : Value} {l : List (Int × Int)} (h : Cn1 w wr n B k us v l) (x : Value) (hf : AftI w.heap.size wr w1 B ((⟨n, us, 0⟩ : Ar).put x) v.ownBlock.toList) :
    AsI w.heap.size w1 B ⟨n, us ++ [⟨1, true, x⟩], 0⟩ v.ownBlock.toList ∧ Hr w1 v l ∧ Below w.heap.size w w1 := by
  have hl : low us = us.length := low_of_live (by rw [h.liv, h.len])
  have e : (⟨n, us, 0⟩ : Ar).put x = ⟨n, us ++ [⟨1, true, x⟩], 0⟩ := by
    unfold Ar.put
    simp [hl]
  rw [e] at hf
  exact ⟨hf.1, h.row.keep hf.2.2, h.bel.trans (hf.2.1.mono (Nat.le_refl _))⟩

/-- .. and the handle among the others. -/
theorem Cn1.next {w wr w1 w2 : World} {n B k : Nat} {us : List Sl} {v v' x : Value} {l : List (Int × Int)} (h : Cn1 w wr n B k us v l) (hA : AsI w.heap.size w1 B ⟨n, us ++ [⟨1, true, x⟩], 0⟩ v.ownBlock.toList) (hB : Below w.heap.size w w1)
    (hr : Hr w2 v' (l ++ [((k : Int), 1)])) (ht : Tn v.ownBlock.toList w1 w2) (hn : Nw w1 v v') : Cn1 w w2 n B (k + 1) (us ++ [⟨1, true, x⟩]) v' (l ++ [((k : Int), 1)]) where
  ar := hA.grow ht (fun x hx => .inl hx) hn.mem (fun x hx => hr.lt x (opt_toList.1 hx))
  len := by simp [h.len]
  liv := by rw [live_snoc _ _ rfl, h.liv]
  gens := by
    intro s hs
    simp only [List.mem_append, List.mem_cons, List.not_mem_nil, or_false] at hs
    rcases hs with hs | rfl
    · exact h.gens s hs
    · rfl
  row := hr
  ll := by simp [h.ll]
  hs := by
    intro i hi
    by_cases hk : i = k
    · subst hk
      have := h.ll
      simp [List.getD, ← this]
    · have h1 : i < l.length := by have := h.ll; omega
      have := h.hs i (by omega)
      rw [← this]
      simp [List.getD, List.getElem?_append_left h1]
  bel := hB.trans (ht.below hB.size (fun x hx => h.vb x (opt_toList.1 hx)))
  vb := by
    intro g hg
    rcases hn g hg with h1 | h1
    · exact h.vb g h1
    · have := hB.size
      omega

/-- While slots are freed. -/
structure Cn2 (w wr : World) (n B f j : Nat) (a : Ar) (v : Value) (l : List (Int × Int)) : Prop where
  ar : AsI w.heap.size wr B a v.ownBlock.toList
  size : a.size = n
  len : a.us.length = n
  liv : live a.us + f = n
  gens : ∀ s ∈ a.us, s.gen = 1
  st0 : 0 ≤ a.stale
  st : a.stale ≤ j
  row : Hr wr v l
  ll : l.length = n
  hs : ∀ i, i < n → l.getD i (0, 0) = ((i : Int), 1)
  bel : Below w.heap.size w wr

/-- While slots are given anew. -/
structure Cn3 (w wr : World) (n B f j : Nat) (a : Ar) : Prop where
  ar : AsI w.heap.size wr B a []
  size : a.size = n
  liv : live a.us + (f - j) = n
  gens : Gens a.us (j + 1)
  bel : Below w.heap.size w wr

theorem Cn1.two {w wr w1 : World} {n B : Nat} {us : List Sl} {v : Value} {l : List (Int × Int)} (h : Cn1 w wr n B n us v l) (hf : AftI w.heap.size wr w1 B ⟨n, us, 0⟩ v.ownBlock.toList) : Cn2 w w1 n B 0 0 ⟨n, us, 0⟩ v l :=
  { ar := hf.1, size := rfl, len := h.len, liv := h.liv, gens := h.gens, st0 := Int.le_refl _, st := Int.le_refl _, row := h.row.keep hf.2.2, ll := h.ll, hs := h.hs, bel := h.bel.trans (hf.2.1.mono (Nat.le_refl _)) }

theorem Cn2.still {w wr w1 : World} {n B f j : Nat} {a : Ar} {v : Value} {l : List (Int × Int)} (h : Cn2 w wr n B f j a v l) (ht : Tn [] wr w1) : Cn2 w w1 n B f j a v l :=
  { h with ar := h.ar.quiet ht, row := h.row.tn ht (by simp), bel := h.bel.trans (ht.below h.bel.size (by simp)) }

theorem Cn2.quiet {w wr w1 : World} {n B f j : Nat} {a : Ar} {v : Value} {l : List (Int × Int)} (h : Cn2 w wr n B f j a v l) (ht : Tn [] wr w1) : Cn2 w w1 n B f j a v l := h.still ht

theorem Cn2.more {w wr : World} {n B f j : Nat} {a : Ar} {v : Value} {l : List (Int × Int)} (h : Cn2 w wr n B f j a v l) : Cn2 w wr n B f (j + 1) a v l :=
  { h with st := by have := h.st; omega }

theorem Cn2.bad {w wr w1 : World} {n B f j : Nat} {a : Ar} {v : Value} {l : List (Int × Int)} (h : Cn2 w wr n B f j a v l) (hf : AftI w.heap.size wr w1 B a.bad v.ownBlock.toList) : Cn2 w w1 n B f (j + 1) a.bad v l :=
  { h with ar := hf.1, st0 := by (have := h.st0; show 0 ≤ a.stale + 1; omega), st := by (have := h.st; show a.stale + 1 ≤ _; omega), row := h.row.keep hf.2.2, bel := h.bel.trans (hf.2.1.mono (Nat.le_refl _)) }

theorem Cn2.free {w wr w1 : World} {n B f j i : Nat} {a : Ar} {v : Value} {l : List (Int × Int)} (h : Cn2 w wr n B f j a v l) (hi : i < n) (hg : (slAt a.us i).given = true) (hf : AftI w.heap.size wr w1 B (a.free i (.int .i64 0)) v.ownBlock.toList) : Cn2 w w1 n B (f + 1) (j + 1) (a.free i (.int .i64 0)) v l := by
  have hlen := h.len
  exact { ar := hf.1, size := h.size, len := (by show (a.us.set i _).length = n; rw [List.length_set]; exact hlen), liv := (by
            have h1 := h.liv
            have h2 : live (a.free i (.int .i64 0)).us + 1 = live a.us := live_set_free (by omega) rfl hg
            omega), gens := (by
            intro s hs
            rcases List.mem_or_eq_of_mem_set hs with h1 | rfl
            · exact h.gens s h1
            · exact h.gens (slAt a.us i) (slAt_mem (us := a.us) (i := i) (by omega))), st0 := h.st0, st := (by have := h.st; show a.stale ≤ _; omega), row := h.row.keep hf.2.2, ll := h.ll, hs := h.hs, bel := h.bel.trans (hf.2.1.mono (Nat.le_refl _)) }

theorem Cn2.three {w wr : World} {n B f j : Nat} {a : Ar} {v : Value} {l : List (Int × Int)} (h : Cn2 w wr n B f j a v l) : Cn3 w wr n B f 0 a :=
  { ar := h.ar.sub (by simp), size := h.size, liv := h.liv, gens := fun s hs => by have := h.gens s hs; omega, bel := h.bel }

theorem Cn3.quiet {w wr w1 : World} {n B f j : Nat} {a : Ar} (h : Cn3 w wr n B f j a) (ht : Tn [] wr w1) : Cn3 w w1 n B f j a :=
  { h with ar := h.ar.quiet ht, bel := h.bel.trans (ht.below h.bel.size (by simp)) }

theorem Cn3.put {w wr w1 : World} {n B f r : Nat} {a : Ar} {x : Value} (h : Cn3 w wr n B f r a) (hr : r < f) (hf : AftI w.heap.size wr w1 B (a.put x) []) : Cn3 w w1 n B f (r + 1) (a.put x) :=
  { ar := hf.1, size := h.size, liv := (by rw [live_put]; have := h.liv; omega), gens := (by have := h.gens.put (by omega) x; exact this.mono (by omega)), bel := h.bel.trans (hf.2.1.mono (Nat.le_refl _)) }

theorem InI.at {B : Nat} {w : World} {p : Option Addr} {len cap : Nat} {xs : List Int} (h : InI B w p len cap xs) {j : Nat} (hj : j < len) : ∃ y b o, p = some ⟨b, o, none⟩ ∧ w.cell? ⟨b, o + j, none⟩ = some (.int .i64 y) ∧ -9223372036854775808 ≤ y ∧ y ≤ 9223372036854775807 := by
  obtain ⟨b, o, hp, hc⟩ := h.its (by have := h.lenq; omega)
  have hjl : j < xs.length := by rw [h.lenq]; exact hj
  have hm : xs.getD j 0 ∈ xs := by simp [List.getD, hjl]
  exact ⟨_, b, o, hp, hc j hjl, (h.fits _ hm).1, (h.fits _ hm).2⟩

set_option maxHeartbeats 8000000 in
theorem walk_arenaCounts (sl : Int) (p : Option Addr) (len cap : Nat) (xs : List Int) (w : World) (hsl : (Lit.int .u8 sl).wf = true) (hin : InI 17592186043904 w p len cap xs) :
    Calls Try.prog 5 #[.int .u8 sl, .slice p len cap] w fun e w' => e = .returned (.bool true) ∧ Below w.heap.size w w' := by
  obtain ⟨u0, u1⟩ := bounds_u8 hsl
  clear hsl
  obtain ⟨s, rfl⟩ : ∃ s : Nat, sl = (s : Int) := ⟨sl.toNat, by omega⟩
  obtain ⟨n, hn1, hn2, HN⟩ : ∃ n : Nat, 1 ≤ n ∧ n ≤ 40 ∧ Hid ((s : Int) % 40 + 1 = (n : Int)) := ⟨s % 40 + 1, by omega, by omega, by unfold Hid; omega⟩
  have hle := hin.le
  have hroom := hin.room
  have HI : Hid (InI 17592186043904 w p len cap xs) := hin
  clear hin
  go_enter Try.func5, Try.ntmps5
  go_wp2_with fail
  rw [HN.out]
  clear HN
  refine (newSI w n hn1 (by omega)).mono ?_
  rintro e w1 ⟨rfl, hA1, hb1, hs1⟩
  have HA1 : Hid (AsI w.heap.size w1 w.heap.size (Ar.fresh n) []) := hA1
  have HB1 : Hid (Below w.heap.size w w1) := hb1
  clear hA1 hb1 hs1
  go_wp2_with fail
  refine (begun_any w1).mono ?_
  rintro e w2 ⟨rfl, hb2⟩
  have H0 : Hid (Cn1 w w2 n w.heap.size 0 [] (.slice none 0 0) []) := Cn1.start HA1.out HB1.out hb2
  clear HA1 HB1 hb2
  generalize w.heap.size = B at *
  go_wp2_with fail
  go_loopw [8, 39] (fun v iv wr => ∃ (k : Nat) (us : List Sl) (l : List (Int × Int)), k ≤ n ∧ iv = .int .i64 k ∧ Hid (Cn1 w wr n B k us v l)) (fun _ iv _ => n - (intOf iv).toNat)
  case atStart => exact ⟨0, [], [], Nat.zero_le _, rfl, H0⟩
  case round =>
    obtain ⟨k, us, l, hk, rfl, HC⟩ := hrel
    clear H0
    by_cases hlt : k < n
    · have hli : (k : Int) < (n : Int) := by omega
      obtain ⟨⟨q, c, rfl⟩, -⟩ := HC.out.row.formN HC.out.ll
      go_wp2_with fail
      refine (putSI HC.out.ar (k : Int) (by show live us < n; rw [HC.out.liv]; exact hlt) (by rw [HC.out.gen1]; decide) (by rw [HC.out.gen1]; decide)).mono ?_
      rintro e w3 ⟨rfl, hf3⟩
      rw [HC.out.gen1, show low (⟨n, us, 0⟩ : Ar).us = k from HC.out.low1]
      have HP3 : Hid _ := HC.out.put _ hf3
      clear hf3
      obtain ⟨w4, hw4, ht4, hk4, hz4⟩ := hbox w3 (k : Int) 1
      have HA4 : Hid (AsI w.heap.size w4 B ⟨n, us ++ [⟨1, true, .int .i64 (k : Int)⟩], 0⟩ (Value.slice q k c).ownBlock.toList) := HP3.out.1.quiet ht4
      have HT4 : Hid (Tn [] w3 w4) := ht4
      have HK4 : Hid (Bk w4 w3.heap.size 36 #[.int .i64 (k : Int), .int .i64 1]) := hk4
      obtain ⟨k0, k1⟩ := hcells hk4
      clear ht4 hk4 hz4
      go_wp2_with fail
      refine (liveSI HA4.out).mono ?_
      rintro e w5 ⟨rfl, ht5⟩
      rw [show live (⟨n, us ++ [⟨1, true, .int .i64 (k : Int)⟩], 0⟩ : Ar).us = k + 1 by show live (us ++ [_]) = k + 1; rw [live_snoc _ _ rfl, HC.out.liv]]
      have HA5 : Hid (AsI w.heap.size w5 B ⟨n, us ++ [⟨1, true, .int .i64 (k : Int)⟩], 0⟩ (Value.slice q k c).ownBlock.toList) := HA4.out.quiet ht5
      have HT5 : Hid (Tn [] w3 w5) := HT4.out.trans ht5 (by simp)
      obtain ⟨k2, k3⟩ := hcells (HK4.out.tn ht5 (by simp))
      have HR5 : Hid (Hr w5 (.slice q k c) l) := HP3.out.2.1.tn HT5.out (by simp)
      have HB5 : Hid (Below w.heap.size w w5) := HP3.out.2.2.trans (HT5.out.below (Nat.le_refl _) (by simp) |>.mono HP3.out.2.2.size)
      have HR6 : Hid ((w5.alloc (.cells #[.int .i64 (k : Int), .int .i64 1] 36)).ownsRow 0 36 2 (.slice q k c) k (hCells l)) := World.ownsRow.alloc (HR5.out.formN HC.out.ll).2 _
      clear HA4 HT4 HK4 ht5 k0 k1 hw4 HP3
      go_wp2_with (at_builtin; refine appX _ rfl _ _ _ rfl 36 (.agg #[.int .i64 0, .int .i64 0]) 2 16 Try.underlying32 hinfo rfl (by decide) (.slice q k c) k (hCells l) rfl HR6.out (some ⟨w5.heap.size, 0, none⟩) 1 1 [.int .i64 (k : Int), .int .i64 1] rfl rfl ?_ ?_ ?_ (by unfold maxLen; omega) (by omega) ?_)
      · exact news_alloc w5 [.int .i64 (k : Int), .int .i64 1] 36
      · exact hone _ _
      · intro h
        cases h
      · intro v' w6 hrow hg hblk
        obtain ⟨h1, h2, h3⟩ := Hr.app HC.out.ll hrow hg hblk
        have HN : Hid (Cn1 w w6 n B (k + 1) (us ++ [⟨1, true, .int .i64 (k : Int)⟩]) v' (l ++ [((k : Int), 1)])) := HC.out.next HA5.out HB5.out h1 h2 h3
        clear hrow hg hblk h1 h2 h3 HA5 HT5 HR5 HB5 HR6 k2 k3 HC
        go_wp2
        go_roundw
        case rel => exact ⟨k + 1, _, _, by omega, by go_num, HN⟩
        case measure => simp [intOf]; omega
    · have hli : ¬ (k : Int) < (n : Int) := by omega
      obtain rfl : k = n := by omega
      obtain ⟨⟨q, c, rfl⟩, -⟩ := HC.out.row.formN HC.out.ll
      go_wp2_with fail
      refine (fullSI HC.out.ar (-1) HC.out.liv).mono ?_
      rintro e w3 ⟨rfl, hf3⟩
      have HC3 : Hid (Cn2 w w3 k B 0 0 ⟨k, us, 0⟩ (.slice q k c) l) := HC.out.two hf3
      clear hf3 HC
      have HC4 : Hid (Cn2 w (w3.alloc (.cells #[.int .i64 0, .int .i64 0] 36)) k B 0 0 ⟨k, us, 0⟩ (.slice q k c) l) := HC3.out.still ((Tn.refl _ _).alloc _)
      clear HC3
      go_wp2_with fail
      go_loopw [14, 77] (fun fv iv wr => ∃ (j f : Nat) (a : Ar), j ≤ len ∧ f ≤ k ∧ iv = .int .i64 j ∧ fv = .int .i64 f ∧ Hid (Cn2 w wr k B f j a (.slice q k c) l)) (fun _ iv _ => len - (intOf iv).toNat)
      case atStart => exact ⟨0, 0, _, Nat.zero_le _, Nat.zero_le _, rfl, rfl, HC4⟩
      case round =>
        obtain ⟨j, f, a, hj, hf, rfl, rfl, HC5⟩ := hrel
        clear HC4
        by_cases hjl : j < len
        · have hji : (j : Int) < (len : Int) := by omega
          obtain ⟨y, b, o, rfl, cy, hy0, hy1⟩ := (HI.out.below HC5.out.bel).at hjl
          by_cases hneg : y < 0
          · have hd : ¬ 0 ≤ y := by omega
            have HD : Hid (Cn2 w wr k B f (j + 1) a (.slice q k c) l) := HC5.out.more
            clear HC5
            go_wp2_with fail
            refine (liveSI HD.out.ar).mono ?_
            rintro e w6 ⟨rfl, ht6⟩
            have HE : Hid (Cn2 w w6 k B f (j + 1) a (.slice q k c) l) := HD.out.quiet ht6
            have hlv := HE.out.liv
            have hv : (live (a).us : Int) = (k : Int) - ((f : Nat) : Int) := by omega
            rw [hv]
            clear ht6 HD hlv hv
            go_wp2
            go_roundw
            case rel => exact ⟨j + 1, f, a, by omega, by omega, by go_num, by go_num, HE⟩
            case measure => simp [intOf]; omega
          · have hd : 0 ≤ y := by omega
            by_cases hbig : (k : Int) ≤ y
            · have hd2 : ¬ y < (k : Int) := by omega
              have HD : Hid (Cn2 w wr k B f (j + 1) a (.slice q k c) l) := HC5.out.more
              clear HC5
              go_wp2_with fail
              refine (liveSI HD.out.ar).mono ?_
              rintro e w6 ⟨rfl, ht6⟩
              have HE : Hid (Cn2 w w6 k B f (j + 1) a (.slice q k c) l) := HD.out.quiet ht6
              have hlv := HE.out.liv
              have hv : (live (a).us : Int) = (k : Int) - ((f : Nat) : Int) := by omega
              rw [hv]
              clear ht6 HD hlv hv
              go_wp2
              go_roundw
              case rel => exact ⟨j + 1, f, a, by omega, by omega, by go_num, by go_num, HE⟩
              case measure => simp [intOf]; omega
            · obtain ⟨i, rfl⟩ : ∃ i : Nat, y = (i : Int) := ⟨y.toNat, by omega⟩
              have hik : i < k := by omega
              have hiki : (i : Int) < (k : Int) := by omega
              obtain ⟨gq, cq, hq⟩ := row_some (HC5.out.row.formN HC5.out.ll).2 (by omega)
              cases hq
              obtain ⟨r0, r1⟩ := Hr.cell HC5.out.ll HC5.out.row i hik
              rw [HC5.out.hs i hik] at r0 r1
              cases hgv : (slAt a.us i).given with
              | true =>
                have hgood : a.Good (i : Int) 1 := ⟨by omega, by rw [HC5.out.len]; omega, by rw [Int.toNat_natCast]; exact hgv, by rw [Int.toNat_natCast]; exact HC5.out.gens _ (slAt_mem (by rw [HC5.out.len]; exact hik))⟩
                go_wp2_with fail
                refine (freeSI HC5.out.ar (i : Int) 1 hgood).mono ?_
                rintro e w5 ⟨rfl, hf5⟩
                rw [Int.toNat_natCast] at hf5
                have HD : Hid (Cn2 w w5 k B (f + 1) (j + 1) (a.free i (.int .i64 0)) (.slice (some ⟨gq, 0, none⟩) k c) l) := HC5.out.free hik hgv hf5
                have hf1 : f + 1 ≤ k := by have := HD.out.liv; omega
                clear hf5 HC5 r0 r1
                go_wp2_with fail
                refine (liveSI HD.out.ar).mono ?_
                rintro e w6 ⟨rfl, ht6⟩
                have HE : Hid (Cn2 w w6 k B (f + 1) (j + 1) (a.free i (.int .i64 0)) (.slice (some ⟨gq, 0, none⟩) k c) l) := HD.out.quiet ht6
                have hlv := HE.out.liv
                have hv : (live (a.free i (.int .i64 0)).us : Int) = (k : Int) - ((f + 1 : Nat) : Int) := by omega
                rw [hv]
                clear ht6 HD hlv hv
                go_wp2
                go_roundw
                case rel => exact ⟨j + 1, f + 1, _, by omega, by omega, by go_num, by go_num, HE⟩
                case measure => simp [intOf]; omega
              | false =>
                have hbad : ¬ a.Good (i : Int) 1 := by
                  intro hg
                  have := hg.2.2.1
                  rw [Int.toNat_natCast, hgv] at this
                  cases this
                go_wp2_with fail
                refine (freeBadSI HC5.out.ar (i : Int) 1 hbad HC5.out.st0 (by have := HC5.out.st; omega)).mono ?_
                rintro e w5 ⟨rfl, hf5⟩
                have HD : Hid (Cn2 w w5 k B f (j + 1) a.bad (.slice (some ⟨gq, 0, none⟩) k c) l) := HC5.out.bad hf5
                clear hf5 HC5 r0 r1
                go_wp2_with fail
                refine (liveSI HD.out.ar).mono ?_
                rintro e w6 ⟨rfl, ht6⟩
                have HE : Hid (Cn2 w w6 k B f (j + 1) a.bad (.slice (some ⟨gq, 0, none⟩) k c) l) := HD.out.quiet ht6
                have hlv := HE.out.liv
                have hv : (live (a.bad).us : Int) = (k : Int) - ((f : Nat) : Int) := by omega
                rw [hv]
                clear ht6 HD hlv hv
                go_wp2
                go_roundw
                case rel => exact ⟨j + 1, f, a.bad, by omega, by omega, by go_num, by go_num, HE⟩
                case measure => simp [intOf]; omega
        · have hji : ¬ (j : Int) < (len : Int) := by omega
          have H3 : Hid (Cn3 w wr k B f 0 a) := HC5.out.three
          clear HC5
          go_wp2_with fail
          go_loopw [107] (fun iv wr => ∃ (r : Nat) (a : Ar), r ≤ f ∧ iv = .int .i64 r ∧ Hid (Cn3 w wr k B f r a)) (fun iv _ => f - (intOf iv).toNat)
          case atStart => exact ⟨0, a, Nat.zero_le _, rfl, H3⟩
          case round =>
            obtain ⟨r, a, hr, rfl, H4⟩ := hrel
            clear H3
            by_cases hrf : r < f
            · have hri : (r : Int) < (f : Int) := by omega
              have hlv := H4.out.liv
              have hsz := H4.out.size
              have hg := H4.out.gens.gen (by omega)
              go_wp2_with fail
              refine (putSI H4.out.ar 7 (by omega) hg.1 (by omega)).mono ?_
              rintro e w5 ⟨rfl, hf5⟩
              have H5 : Hid (Cn3 w w5 k B f (r + 1) (a.put (.int .i64 7))) := H4.out.put hrf hf5
              obtain ⟨w6, hw6, ht6, -, -⟩ := hbox w5 (low a.us : Int) a.gen
              have H6 : Hid (Cn3 w w6 k B f (r + 1) (a.put (.int .i64 7))) := H5.out.quiet ht6
              clear hf5 H4 H5 ht6
              go_wp2
              go_roundw
              case rel => exact ⟨r + 1, _, by omega, by go_num, H6⟩
              case measure => simp [intOf]; omega
            · have hri : ¬ (r : Int) < (f : Int) := by omega
              have hlv := H4.out.liv
              have hsz := H4.out.size
              go_wp2_with fail
              refine (fullSI H4.out.ar 8 (by omega)).mono ?_
              rintro e w5 ⟨rfl, hf5⟩
              have HA5 : Hid (AsI w.heap.size w5 B a []) := hf5.1
              have HB5 : Hid (Below w.heap.size w w5) := H4.out.bel.trans (hf5.2.1.mono (Nat.le_refl _))
              clear hf5 H4
              go_wp2_with fail
              refine (liveSI HA5.out).mono ?_
              rintro e w6 ⟨rfl, ht6⟩
              have HA6 : Hid (AsI w.heap.size w6 B a []) := HA5.out.quiet ht6
              have HB6 : Hid (Below w.heap.size w w6) := HB5.out.trans (ht6.below (Nat.le_refl _) (by simp) |>.mono HB5.out.size)
              have hv : (live a.us : Int) = (k : Int) := by omega
              rw [hv]
              clear ht6 HA5 HB5 hv
              go_wp2_with fail
              refine (slotsSI HA6.out).mono ?_
              rintro e w7 ⟨rfl, rfl⟩
              rw [hsz]
              clear HA6 hlv hsz
              go_wp2
              go_ret
              exact ⟨rfl, HB6.out⟩

set_option maxRecDepth 100000 in
set_option maxHeartbeats 2000000 in
theorem lifted_arenaCounts (os : Os) (started : os.Started) (H : Type) (enc : TypeId × Value → H) :
    ReturnsInHanded {} Try.checked os 5 .any (Rows.arenaCountsSpec.pre6 enc Try.prog Try.f5 Rows.arenaCountsRow.domain false) (Rows.arenaCountsSpec.post enc Try.prog Try.f5 false true false false) := by
  refine returnsInHanded_of_change_sized (C := Try.checked) own started (by kernel_rfl) Try.func5
    (ChangeSpec.witness6 (enc := enc) (C := Try.checked) false ⟨#[], #[.int .u8 0, .slice none 0 0], []⟩ 8 (by kernel_rfl) (by kernel_rfl) (by kernel_rfl) (by kernel_rfl)) ?_
  intro W base args ds gs before hval0 hW _ hsz0 _
  have hsz : (DataW.weightsEach Try.prog (Try.f5.params.toList ++ Rows.arenaCountsSpec.plain.varTypes Try.prog) (ds ++ gs)).all (· ≤ reachBytes) = true := hsz0
  clear hsz0
  have hval : ∀ (j : Nat) t v, Try.f5.params[j]? = some t → args[j]? = some v → Value.okWide Try.prog W .any base t v := hval0
  have hW' := hW
  obtain ⟨p, q, hA0, hV, rfl, hfz, hnd⟩ := hW
  have hA : DataW.TrodAll enc Try.prog W 0 (fun _ => true) true Try.f5.params.toList args.toList ds p := hA0
  rw [Try.params5] at hA hval hsz
  obtain ⟨v0, vs0, d0, ds0, p0, q0, hargs, rfl, rfl, h0, r0⟩ := trodAll_cons hA
  obtain ⟨v1, vs1, d1, ds1, p1, q1, rfl, rfl, rfl, h1, r1⟩ := trodAll_cons r0
  obtain ⟨rfl, rfl, rfl⟩ := trodAll_nil r1
  obtain rfl : args = #[v0, v1] := by cases args; simp_all
  obtain ⟨rfl, rfl⟩ := trodVars_none hV
  obtain ⟨a0, rfl, rfl, rfl, w0⟩ := open_int Try.underlying5 (hval 0 5 v0 rfl rfl) h0
  obtain ⟨a1, len1, cap1, rfl⟩ := okWide_slice Try.underlying52 (hval 1 52 v1 rfl rfl)
  have k1 := h1
  have lt1 : ∀ x ∈ p1, x.block < W.heap.size := by obtain ⟨m, hm⟩ := k1; exact DataW.trod_lt m _ _ _ hm
  obtain ⟨z1, w1⟩ : ∃ zs, InI 17592186043904 W a1 len1 cap1 zs := by
    refine in_ints h1 ?_
    intro elems spare hd
    have := sized_slice hsz (j := 1) (t := 52) (e := 3) rfl (by rw [hd]; rfl) Try.underlying52
    rw [bytes_int] at this
    simp only [reachBytes] at this
    omega
  clear hA0 hval0
  refine (walk_arenaCounts a0 a1 len1 cap1 z1 W w0 w1).mono fun e W' ⟨he, bel⟩ => ?_
  subst he
  exact ⟨_, rfl, _, _, _, [], _, [], hW', trodAll_mk1 (shut_bool Try.underlying4 _), (trodAll_cons_mk (shut_int Try.underlying5 w0) (trodAll_cons_mk (Below.trod laidOut (by kernel_rfl) (of_decide_eq_true (by kernel_rfl)) k1 bel lt1) trodAll_mk0)), rfl, bel.frame _, fun h => by cases h⟩

/-- The statement. -/
theorem arenaCounts_holds : Rows.ArenaCountsSaid :=
  OpenClaim.holds_of_wide 5 Try.f5 rfl rfl rfl rfl rfl rfl rfl ⟨rfl, rfl, rfl, rfl, rfl⟩ rfl rfl rfl rfl rfl (by kernel_rfl) Try.func5 (by kernel_rfl)
    (of_decide_eq_true (by kernel_rfl)) (by unfold Func.isWrapper; first | (rw [if_pos (by decide +kernel)]; kernel_rfl) | (rw [if_neg (by decide +kernel)]; exact ⟨rfl, rfl⟩))
    (fun os started H enc _ => lifted_arenaCounts os started H enc)
#print axioms arenaCounts_holds
end Go.Proofs.Ytpdbmiiglpbmjaa
