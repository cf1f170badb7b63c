/- The bytes of records, or what is wrong with them. -/
import Derived.Test.YtlfgclmgpbaenaaRcFill2
import Derived.Test.YtlfgclmgpbaenaaRcMs
namespace Go.Proofs.Ytlfgclmgpbaenaa
open Go.RowKit
set_option linter.unusedVariables false
set_option maxRecDepth 100000

theorem fl_new (w : World) : Fl (w.alloc (.cells #[.slice none 0 0] 108)) w.heap.size [w.heap.size] 0 [] :=
  ⟨.slice none 0 0, rfl, Bk.new _ _ _, World.ownsRow_nil _ _ _ _, fun h => by cases h⟩

theorem Fg.result {wF w' : World} {F : Nat} {xs : List Int} (h : Fg wF w' F [F] xs) (hF : F < wF.heap.size) : ∃ v, w'.cell? ⟨F, 0, none⟩ = some v ∧ Own w' F v xs.length xs ∧ Below F wF w' := by
  obtain ⟨bs, ⟨v, rfl, hk, ho, hne⟩, ht, hm⟩ := h
  refine ⟨v, hk.cell 0, ?_, ht.below (by omega) (by simp)⟩
  refine ⟨ho.1, ?_⟩
  rcases ho.2 with hn | ⟨g, cap, cur, hv, hb, rest⟩
  · exact .inl hn
  · refine .inr ⟨g, cap, cur, hv, ?_, rest⟩
    have := hm g (by rw [hv]; simp [Value.ownBlock])
    simp only [List.mem_singleton] at this
    omega

/-- What a record's bytes come to: the bytes, or an error alone. -/
def Came (w w' : World) (v : Value) (e : Int) (xs : List Int) : Prop := Below w.heap.size w w' ∧ (e = 0 → Own w' w.heap.size v xs.length xs) ∧ (e ≠ 0 → v = .slice none 0 0)

set_option maxHeartbeats 1000000 in
theorem ccheck_any (ts : Int) (p : Option Addr) (len cap : Nat) (l : List Wr) (w : World) (hin : InW w p len cap l) :
    Calls Try.prog 111 #[.agg #[.int .i64 ts, .slice p len cap]] w fun e w' => e = .returned (.int .i64 (Rc.comE ts l)) ∧ Below w.heap.size w w' := by
  have HB : Hid (Below w.heap.size w (w.alloc (.cells #[.int .i64 ts, .slice p len cap] 74))) := (Below.refl _ _).alloc (Nat.le_refl _) _
  have HI : Hid (InW (w.alloc (.cells #[.int .i64 ts, .slice p len cap] 74)) p len cap l) := hin.up HB.out
  clear hin
  go_enter Try.func111, Try.ntmps111
  go_wp2_with fail
  refine (checkCommit_any ts p len cap l _ HI.out).mono ?_
  rintro e w1 ⟨rfl, hb1⟩
  have HB1 : Hid (Below w.heap.size w w1) := HB.out.trans (hb1.mono HB.out.size)
  clear hb1
  go_wp2
  go_ret
  exact ⟨rfl, HB1.out⟩

theorem Rc.wsE_sizes : ∀ {a : ByteArray} {l : List Wr}, Rc.wsE a l = 0 → ∀ g ∈ l, g.key.size ≤ 64 ∧ g.val.size ≤ 256
  | a, [], _, g, hg => by cases hg
  | a, x :: r, h, g, hg => by
    rw [Rc.wsE] at h
    split at h
    · rename_i h0
      split at h
      · cases h
      · rcases List.mem_cons.1 hg with rfl | hg
        · have h1 := Rc.pairE_key (Rc.wrE_pair h0)
          have h2 := h1.1
          have h3 := h1.2
          unfold Rc.keyE at h2
          unfold Rc.valE at h3
          constructor
          · split at h2 <;> omega
          · split at h3 <;> omega
        · exact Rc.wsE_sizes h g hg
    · contradiction

theorem Rc.comE_sizes {ts : Int} {l : List Wr} (h : Rc.comE ts l = 0) : (1 ≤ ts ∧ ts ≤ 1099511627776) ∧ l.length ≤ 64 ∧ 0 < l.length ∧ (∀ g ∈ l, g.key.size ≤ 64 ∧ g.val.size ≤ 256) ∧ Rc.wsE .empty l = 0 := by
  unfold Rc.comE at h
  split at h
  · omega
  · exact ⟨by omega, by omega, by omega, Rc.wsE_sizes h, h⟩

set_option maxHeartbeats 1000000 in
theorem bytesOf_commit (ts : Int) (p : Option Addr) (len cap : Nat) (l : List Wr) (w : World) (hin : InW w p len cap l) :
    Calls Try.prog 49 #[.iface 74 (.agg #[.int .i64 ts, .slice p len cap])] w fun e w' => ∃ v, e = .returned (.tuple #[v, .int .i64 (Rc.comE ts l)]) ∧ Came w w' v (Rc.comE ts l) (Rc.comB ts l) := by
  have HI : Hid (InW w p len cap l) := hin
  clear hin
  go_enter Try.func49, Try.ntmps49
  go_wp2_with fail
  refine (ccheck_any ts p len cap l _ HI.out).mono ?_
  rintro e w1 ⟨rfl, hb1⟩
  by_cases he : Rc.comE ts l = 0
  · have hne : (Rc.comE ts l != 0) = false := by simpa using he
    obtain ⟨⟨t0, t1⟩, hl64, -, hsz, -⟩ := Rc.comE_sizes he
    have HE : Hid (Rc.comE ts l = 0) := he
    have hll := HI.out.lenq
    have HI2 : Hid (∀ w', Below w1.heap.size (w1.alloc (.cells #[.slice none 0 0] 108)) w' → InW w' p len cap l) := fun w' hb => (HI.out.up hb1).up (((Below.refl _ _).alloc (Nat.le_refl _) _).trans hb)
    have HB1 : Hid (Below w.heap.size w w1) := hb1
    have HZ : Hid (∀ g ∈ l, g.key.size ≤ 64 ∧ g.val.size ≤ 256) := hsz
    clear he hb1 hsz
    go_wp2_with fail
    refine (cfill_any (fl_new w1) (lo := w1.heap.size) (by simp) (by simp) ts (by omega) (by omega) p len cap l HI2.out (by omega) HZ.out).mono ?_
    rintro e w2 ⟨rfl, h2⟩
    obtain ⟨v, c2, ho2, hb2⟩ := h2.result (by simp)
    have HC : Hid (Came w w2 v (Rc.comE ts l) (Rc.comB ts l)) := by
      have hb := HB1.out.size
      have hb3 : Below w.heap.size w w2 := (HB1.out.alloc hb _).trans (hb2.mono hb)
      exact ⟨hb3, fun _ => ho2.mono hb, fun h => absurd HE.out h⟩
    clear h2 ho2 hb2 HZ hll HI2 HI HB1
    go_wp2
    go_ret2
    exact ⟨v, by rw [HE.out]; rfl, HC.out⟩
  · have hne : (Rc.comE ts l != 0) = true := by simpa using he
    have HC : Hid (Came w w1 (.slice none 0 0) (Rc.comE ts l) (Rc.comB ts l)) := ⟨hb1, fun h => absurd h he, fun _ => rfl⟩
    clear he hb1
    go_wp2
    go_ret2
    exact ⟨_, rfl, HC.out⟩

theorem Rc.stsE_sizes : ∀ {a : ByteArray} {l : List St}, Rc.stsE a l = 0 → ∀ g ∈ l, g.key.size ≤ 64 ∧ g.val.size ≤ 256
  | a, [], _, g, hg => by cases hg
  | a, x :: r, h, g, hg => by
    rw [Rc.stsE] at h
    split at h
    · rename_i h0
      split at h
      · cases h
      · rcases List.mem_cons.1 hg with rfl | hg
        · have h1 := Rc.pairE_key h0
          have h2 := h1.1
          have h3 := h1.2
          unfold Rc.keyE at h2
          unfold Rc.valE at h3
          constructor
          · split at h2 <;> omega
          · split at h3 <;> omega
        · exact Rc.stsE_sizes h g hg
    · contradiction

theorem Rc.chE_sizes {n : Int} {l : List St} (h : Rc.chE n l = 0) : (0 ≤ n ∧ n ≤ 4095) ∧ l.length ≤ 16 ∧ (∀ g ∈ l, g.key.size ≤ 64 ∧ g.val.size ≤ 256) ∧ Rc.stsE .empty l = 0 := by
  unfold Rc.chE at h
  split at h
  · omega
  · exact ⟨by omega, by omega, Rc.stsE_sizes h, h⟩

theorem Rc.inn_iff {a n b : Int} : Rc.inn a n b = true ↔ a ≤ n ∧ n ≤ b := by simp [Rc.inn]

theorem Rc.msE_sizes {m : Ms} (h : Rc.msE m = 0) : (1 ≤ m.seq ∧ m.seq ≤ 1099511627776) ∧ (0 ≤ m.area ∧ m.area ≤ 1) ∧ (1 ≤ m.chunks ∧ m.chunks ≤ 4096) ∧ (0 ≤ m.ts ∧ m.ts ≤ 1099511627776) ∧ (0 ≤ m.sector ∧ m.sector ≤ 1099511627776) ∧ (0 ≤ m.offset ∧ m.offset ≤ 511) ∧ (0 ≤ m.number ∧ m.number ≤ 1099511627776) ∧ (0 ≤ m.run ∧ m.run ≤ 1099511627776) := by
  unfold Rc.msE at h
  split at h
  · rename_i h0
    simp only [Bool.and_eq_true, Rc.inn_iff] at h0
    obtain ⟨⟨⟨⟨⟨⟨⟨a, b⟩, c⟩, d⟩, e⟩, f⟩, g⟩, i⟩ := h0
    exact ⟨a, b, c, d, e, f, g, i⟩
  · cases h

theorem Rc.msE_fits {m : Ms} (h : Rc.msE m = 0) : m.fits := by
  have := Rc.msE_sizes h
  unfold Ms.fits
  omega

theorem Rc.wrE_sizes {x : Wr} (h : Rc.wrE x = 0) : x.key.size ≤ 64 ∧ x.val.size ≤ 256 := by
  have h1 := Rc.pairE_key (Rc.wrE_pair h)
  have h2 := h1.1
  have h3 := h1.2
  unfold Rc.keyE at h2
  unfold Rc.valE at h3
  constructor
  · split at h2 <;> omega
  · split at h3 <;> omega

set_option maxHeartbeats 1000000 in
theorem hcheck_any (n : Int) (d : Bool) (p : Option Addr) (len cap : Nat) (l : List St) (w : World) (hin : InS w p len cap l) :
    Calls Try.prog 123 #[.agg #[.int .i64 n, .slice p len cap, .bool d]] w fun e w' => e = .returned (.int .i64 (Rc.chE n l)) ∧ Below w.heap.size w w' := by
  have HB : Hid (Below w.heap.size w (w.alloc (.cells #[.int .i64 n, .slice p len cap, .bool d] 77))) := (Below.refl _ _).alloc (Nat.le_refl _) _
  have HI : Hid (InS (w.alloc (.cells #[.int .i64 n, .slice p len cap, .bool d] 77)) p len cap l) := hin.up HB.out
  clear hin
  go_enter Try.func123, Try.ntmps123
  go_wp2_with fail
  refine (checkChunk_any n p len cap l d _ HI.out).mono ?_
  rintro e w1 ⟨rfl, hb1⟩
  have HB1 : Hid (Below w.heap.size w w1) := HB.out.trans (hb1.mono HB.out.size)
  clear hb1
  go_wp2
  go_ret
  exact ⟨rfl, HB1.out⟩

set_option maxHeartbeats 1000000 in
theorem bytesOf_chunk (n : Int) (d : Bool) (p : Option Addr) (len cap : Nat) (l : List St) (w : World) (hin : InS w p len cap l) :
    Calls Try.prog 49 #[.iface 77 (.agg #[.int .i64 n, .slice p len cap, .bool d])] w fun e w' => ∃ v, e = .returned (.tuple #[v, .int .i64 (Rc.chE n l)]) ∧ Came w w' v (Rc.chE n l) (Rc.chB n d l) := by
  have HI : Hid (InS w p len cap l) := hin
  clear hin
  go_enter Try.func49, Try.ntmps49
  go_wp2_with fail
  refine (hcheck_any n d p len cap l _ HI.out).mono ?_
  rintro e w1 ⟨rfl, hb1⟩
  by_cases he : Rc.chE n l = 0
  · have hne : (Rc.chE n l != 0) = false := by simpa using he
    obtain ⟨⟨t0, t1⟩, hl64, hsz, -⟩ := Rc.chE_sizes he
    have HE : Hid (Rc.chE n l = 0) := he
    have hll := HI.out.lenq
    have HI2 : Hid (∀ w', Below w1.heap.size (w1.alloc (.cells #[.slice none 0 0] 108)) w' → InS w' p len cap l) := fun w' hb => (HI.out.up hb1).up (((Below.refl _ _).alloc (Nat.le_refl _) _).trans hb)
    have HB1 : Hid (Below w.heap.size w w1) := hb1
    have HZ : Hid (∀ g ∈ l, g.key.size ≤ 64 ∧ g.val.size ≤ 256) := hsz
    clear he hb1 hsz
    go_wp2_with fail
    refine (hfill_any (fl_new w1) (lo := w1.heap.size) (by simp) (by simp) n d (by omega) (by omega) p len cap l HI2.out (by omega) HZ.out).mono ?_
    rintro e w2 ⟨rfl, h2⟩
    obtain ⟨v, c2, ho2, hb2⟩ := h2.result (by simp)
    have HC : Hid (Came w w2 v (Rc.chE n l) (Rc.chB n d l)) := by
      have hb := HB1.out.size
      have hb3 : Below w.heap.size w w2 := (HB1.out.alloc hb _).trans (hb2.mono hb)
      exact ⟨hb3, fun _ => ho2.mono hb, fun h => absurd HE.out h⟩
    clear h2 ho2 hb2 HZ hll HI2 HI HB1
    go_wp2
    go_ret2
    exact ⟨v, by rw [HE.out]; rfl, HC.out⟩
  · have hne : (Rc.chE n l != 0) = true := by simpa using he
    have HC : Hid (Came w w1 (.slice none 0 0) (Rc.chE n l) (Rc.chB n d l)) := ⟨hb1, fun h => absurd h he, fun _ => rfl⟩
    clear he hb1
    go_wp2
    go_ret2
    exact ⟨_, rfl, HC.out⟩

set_option maxHeartbeats 1000000 in
theorem mcheck_any (m : Ms) (w : World) :
    Calls Try.prog 125 #[.agg m.cells.toArray] w fun e w' => e = .returned (.int .i64 (Rc.msE m)) ∧ Below w.heap.size w w' := by
  have HB : Hid (Below w.heap.size w (w.alloc (.cells m.cells.toArray 81))) := (Below.refl _ _).alloc (Nat.le_refl _) _
  unfold Ms.cells at *
  go_enter Try.func125, Try.ntmps125
  go_wp2_with fail
  refine (checkMaster_any m _).mono ?_
  rintro e w1 ⟨rfl, hb1⟩
  have HB1 : Hid (Below w.heap.size w w1) := HB.out.trans (hb1.mono HB.out.size)
  clear hb1
  go_wp2
  go_ret
  exact ⟨rfl, HB1.out⟩

set_option maxHeartbeats 1000000 in
theorem wcheck_any (x : Wr) (w : World) :
    Calls Try.prog 127 #[.agg x.cells.toArray] w fun e w' => e = .returned (.int .i64 (Rc.wrE x)) ∧ Below w.heap.size w w' := by
  have HB : Hid (Below w.heap.size w (w.alloc (.cells x.cells.toArray 102))) := (Below.refl _ _).alloc (Nat.le_refl _) _
  unfold Wr.cells at *
  go_enter Try.func127, Try.ntmps127
  go_wp2_with fail
  refine (checkWrite_any x _).mono ?_
  rintro e w1 ⟨rfl, hb1⟩
  have HB1 : Hid (Below w.heap.size w w1) := HB.out.trans (hb1.mono HB.out.size)
  clear hb1
  go_wp2
  go_ret
  exact ⟨rfl, HB1.out⟩

set_option maxHeartbeats 1000000 in
theorem bytesOf_master (m : Ms) (w : World) :
    Calls Try.prog 49 #[.iface 81 (.agg m.cells.toArray)] w fun e w' => ∃ v, e = .returned (.tuple #[v, .int .i64 (Rc.msE m)]) ∧ Came w w' v (Rc.msE m) (Rc.msB m) := by
  go_enter Try.func49, Try.ntmps49
  go_wp2_with fail
  refine (mcheck_any m _).mono ?_
  rintro e w1 ⟨rfl, hb1⟩
  by_cases he : Rc.msE m = 0
  · have hne : (Rc.msE m != 0) = false := by simpa using he
    have HE : Hid (Rc.msE m = 0) := he
    have HB1 : Hid (Below w.heap.size w w1) := hb1
    clear he hb1
    go_wp2_with fail
    refine (mfill_any (fl_new w1) m (Rc.msE_fits HE.out)).mono ?_
    rintro e w2 ⟨rfl, h2⟩
    obtain ⟨v, c2, ho2, hb2⟩ := h2.result (by simp)
    have HC : Hid (Came w w2 v (Rc.msE m) (Rc.msB m)) := by
      have hb := HB1.out.size
      have hb3 : Below w.heap.size w w2 := (HB1.out.alloc hb _).trans (hb2.mono hb)
      exact ⟨hb3, fun _ => ho2.mono hb, fun h => absurd HE.out h⟩
    clear h2 ho2 hb2 HB1
    go_wp2
    go_ret2
    exact ⟨v, by rw [HE.out]; rfl, HC.out⟩
  · have hne : (Rc.msE m != 0) = true := by simpa using he
    have HC : Hid (Came w w1 (.slice none 0 0) (Rc.msE m) (Rc.msB m)) := ⟨hb1, fun h => absurd h he, fun _ => rfl⟩
    clear he hb1
    go_wp2
    go_ret2
    exact ⟨_, rfl, HC.out⟩

set_option maxHeartbeats 1000000 in
theorem bytesOf_write (x : Wr) (w : World) :
    Calls Try.prog 49 #[.iface 102 (.agg x.cells.toArray)] w fun e w' => ∃ v, e = .returned (.tuple #[v, .int .i64 (Rc.wrE x)]) ∧ Came w w' v (Rc.wrE x) (Rc.wrB x) := by
  go_enter Try.func49, Try.ntmps49
  go_wp2_with fail
  refine (wcheck_any x _).mono ?_
  rintro e w1 ⟨rfl, hb1⟩
  by_cases he : Rc.wrE x = 0
  · have hne : (Rc.wrE x != 0) = false := by simpa using he
    have HE : Hid (Rc.wrE x = 0) := he
    have HB1 : Hid (Below w.heap.size w w1) := hb1
    clear he hb1
    go_wp2_with fail
    refine (wfill_any (Fg.begin (xs := []) (fl_new w1)) x (Rc.wrE_sizes HE.out).1 (Rc.wrE_sizes HE.out).2 (by simp)).mono ?_
    rintro e w2 ⟨rfl, h2⟩
    obtain ⟨v, c2, ho2, hb2⟩ := h2.result (by simp)
    have HC : Hid (Came w w2 v (Rc.wrE x) (Rc.wrB x)) := by
      have hb := HB1.out.size
      have hb3 : Below w.heap.size w w2 := (HB1.out.alloc hb _).trans (hb2.mono hb)
      exact ⟨hb3, fun _ => ho2.mono hb, fun h => absurd HE.out h⟩
    clear h2 ho2 hb2 HB1
    go_wp2
    go_ret2
    exact ⟨v, by rw [HE.out]; rfl, HC.out⟩
  · have hne : (Rc.wrE x != 0) = true := by simpa using he
    have HC : Hid (Came w w1 (.slice none 0 0) (Rc.wrE x) (Rc.wrB x)) := ⟨hb1, fun h => absurd h he, fun _ => rfl⟩
    clear he hb1
    go_wp2
    go_ret2
    exact ⟨_, rfl, HC.out⟩

set_option maxHeartbeats 1000000 in
theorem commit_any (ts : Int) (p : Option Addr) (len cap : Nat) (l : List Wr) (w : World) (hin : InW w p len cap l) :
    Calls Try.prog 22 #[.agg #[.int .i64 ts, .slice p len cap]] w fun e w' => ∃ v, e = .returned (.tuple #[v, .int .i64 (Rc.comE ts l)]) ∧ Came w w' v (Rc.comE ts l) (Rc.comB ts l) := by
  have HB : Hid (Below w.heap.size w (w.alloc (.cells #[.int .i64 ts, .slice p len cap] 24))) := (Below.refl _ _).alloc (Nat.le_refl _) _
  have HI : Hid (InW (w.alloc (.cells #[.int .i64 ts, .slice p len cap] 24)) p len cap l) := hin.up HB.out
  clear hin
  go_enter Try.func22, Try.ntmps22
  go_wp2_with fail
  refine (bytesOf_commit ts p len cap l _ HI.out).mono ?_
  rintro e w1 ⟨v, rfl, hb1, h1, h2⟩
  have HC : Hid (Came w w1 v (Rc.comE ts l) (Rc.comB ts l)) := ⟨HB.out.trans (hb1.mono HB.out.size), fun h => (h1 h).mono HB.out.size, h2⟩
  clear hb1 h1 h2
  go_wp2
  go_ret2
  exact ⟨v, rfl, HC.out⟩

set_option maxHeartbeats 1000000 in
theorem chunk_any (n : Int) (d : Bool) (p : Option Addr) (len cap : Nat) (l : List St) (w : World) (hin : InS w p len cap l) :
    Calls Try.prog 24 #[.agg #[.int .i64 n, .slice p len cap, .bool d]] w fun e w' => ∃ v, e = .returned (.tuple #[v, .int .i64 (Rc.chE n l)]) ∧ Came w w' v (Rc.chE n l) (Rc.chB n d l) := by
  have HB : Hid (Below w.heap.size w (w.alloc (.cells #[.int .i64 n, .slice p len cap, .bool d] 27))) := (Below.refl _ _).alloc (Nat.le_refl _) _
  have HI : Hid (InS (w.alloc (.cells #[.int .i64 n, .slice p len cap, .bool d] 27)) p len cap l) := hin.up HB.out
  clear hin
  go_enter Try.func24, Try.ntmps24
  go_wp2_with fail
  refine (bytesOf_chunk n d p len cap l _ HI.out).mono ?_
  rintro e w1 ⟨v, rfl, hb1, h1, h2⟩
  have HC : Hid (Came w w1 v (Rc.chE n l) (Rc.chB n d l)) := ⟨HB.out.trans (hb1.mono HB.out.size), fun h => (h1 h).mono HB.out.size, h2⟩
  clear hb1 h1 h2
  go_wp2
  go_ret2
  exact ⟨v, rfl, HC.out⟩

set_option maxHeartbeats 1000000 in
theorem master_any (m : Ms) (w : World) :
    Calls Try.prog 26 #[.agg m.cells.toArray] w fun e w' => ∃ v, e = .returned (.tuple #[v, .int .i64 (Rc.msE m)]) ∧ Came w w' v (Rc.msE m) (Rc.msB m) := by
  have HB : Hid (Below w.heap.size w (w.alloc (.cells m.cells.toArray 31))) := (Below.refl _ _).alloc (Nat.le_refl _) _
  unfold Ms.cells at *
  go_enter Try.func26, Try.ntmps26
  go_wp2_with fail
  refine (bytesOf_master m _).mono ?_
  rintro e w1 ⟨v, rfl, hb1, h1, h2⟩
  have HC : Hid (Came w w1 v (Rc.msE m) (Rc.msB m)) := ⟨HB.out.trans (hb1.mono HB.out.size), fun h => (h1 h).mono HB.out.size, h2⟩
  clear hb1 h1 h2
  go_wp2
  go_ret2
  exact ⟨v, rfl, HC.out⟩

end Go.Proofs.Ytlfgclmgpbaenaa
