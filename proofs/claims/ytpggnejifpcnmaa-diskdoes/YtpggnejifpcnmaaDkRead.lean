/- Disks: reading. -/
import Derived.Test.YtpggnejifpcnmaaDkSt
namespace Go.Proofs.Ytpggnejifpcnmaa
open Go.RowKit Go.Maps
set_option linter.unusedVariables false

theorem IsDk.sureSec {w : World} {B S M : Nat} {p : Option Addr} {c : Nat} {kb : List Nat} {d : Dk} (h : IsDk w B S M p c kb d) {i : Nat} (hi : i < d.n) : SecAt w S (i * 512) (d.sure i) := by
  obtain ⟨cur, hb, hs⟩ := h.sure
  intro j hj
  rw [hb.cell]
  exact hs.2 i hi j hj

theorem secCells_512 {xs : List Int} (h : xs.length = 512) : (secCells xs).size = 512 := by rw [secCells_size, h]
theorem zeros_512 : (secCells zeros).size = 512 := secCells_512 sec_zeros.1

set_option maxHeartbeats 2000000 in
theorem last_any {w : World} {B : Nat} {bs : List Nat} {d : Dk} (h : Dsk w B bs d) (i : Nat) (hi : i < d.n) :
    Calls Try.prog 42 #[.pointer (some ⟨B, 0, none⟩), .int .i64 (i : Int)] w fun e w' => e = .returned (secVal (d.last i)) ∧ Below w.heap.size w w' := by
  obtain ⟨S, M, p, c, kb, -, h⟩ := h
  have hlt := h.lt
  have hB : B < w.heap.size := hlt B (by simp)
  have hS : S < w.heap.size := hlt S (by simp)
  obtain ⟨c0, c1, -⟩ := h.cells
  have HS : Hid (SecAt w S (i * 512) (d.sure i)) := h.sureSec hi
  have HM : Hid (w.ownsMap Try.prog 3 secElem M d.n (datum d.dirty d.n)) := h.map
  have HD : Hid (∀ i x, d.dirty i = some x → Sec x) := h.secD
  have HSS : Hid (Sec (d.sure i)) := h.secS i hi
  have hn2 := h.n2
  clear h hlt
  go_enter Try.func42, Try.ntmps42
  go_wp2_with (refine wp_alloc_sec rfl rfl ?_; intro w1 z1 hl1 _ hz1 hb1 hs1; refine Hid.out ?_)
  unfold Hid
  have c1' : w1.cell? ⟨B, 1, none⟩ = some (.map (some M)) := (hb1.cell (p := ⟨B, 1, none⟩) hB).trans c1
  have c0' : w1.cell? ⟨B, 0, none⟩ = some (.slice (some ⟨S, 0, none⟩) d.n d.cs) := (hb1.cell (p := ⟨B, 0, none⟩) hB).trans c0
  have HM1 : Hid (w1.ownsMap Try.prog 3 secElem M d.n (datum d.dirty d.n)) := owns_tn HM.out (Tn.of_below hb1 []) (by simp)
  have HS1 : Hid (SecAt w1 S (i * 512) (d.sure i)) := fun j hj => (hb1.cell (p := ⟨S, i * 512 + j, none⟩) hS).trans (HS.out j hj)
  clear c0 c1
  have HZ1 : Hid (Bk w1 w.heap.size 79 (secCells z1)) := hz1
  have HE1 : Hid (w1.heap.size = w.heap.size + 1) := hs1
  clear hz1 hs1
  go_wp2_with (first
    | (refine wp_lookup_sec rfl _ _ rfl M d.n d.dirty HD.out rfl HM1.out i hi hn2 rfl ?_; intro xs hxl hxs)
    | (refine wp_alloc_sec rfl rfl ?_; intro w2 z2 hl2 _ hz2 hb2 hs2; refine Hid.out ?_))
  unfold Hid
  have hs1 := HE1.out
  have HE2 : Hid (w2.heap.size = w1.heap.size + 1) := hs2
  have HZ2 : Hid (Bk w2 w1.heap.size 79 (secCells z2)) := hz2
  have c0 : w2.cell? ⟨B, 0, none⟩ = some (.slice (some ⟨S, 0, none⟩) d.n d.cs) := (hb2.cell (p := ⟨B, 0, none⟩) (by show B < _; omega)).trans c0'
  have HS2 : Hid (SecAt w2 S (i * 512) (d.sure i)) := fun j hj => (hb2.cell (p := ⟨S, i * 512 + j, none⟩) (by show S < _; omega)).trans (HS1.out j hj)
  have HZ12 : Hid (Bk w2 w.heap.size 79 (secCells z1)) := HZ1.out.below hb2 (by omega)
  have HB2 : Hid (Below w.heap.size w w2) := hb1.trans (hb2.mono (by omega))
  clear c0' c1' HM1 HS1 hz2 HM HS HZ1 hs1 hs2
  cases hfi : d.dirty i with
  | none =>
    go_wp2_with (first
      | (refine wp_store_new rfl _ _ rfl w1.heap.size rfl xs rfl hxl _ _ HZ2.out (secCells_512 hl2) ?_; intro w3 hz3 hg3 hs3; refine Hid.out ?_))
    unfold Hid
    have hs1 := HE1.out
    have hs2 := HE2.out
    have c0' : w3.cell? ⟨B, 0, none⟩ = some (.slice (some ⟨S, 0, none⟩) d.n d.cs) := (World.cell?_of_block (a := ⟨B, 0, none⟩) (hg3.block B (by omega) (by simp; omega))).trans c0
    have HS3 : Hid (SecAt w3 S (i * 512) (d.sure i)) := fun j hj => (World.cell?_of_block (a := ⟨S, i * 512 + j, none⟩) (hg3.block S (by omega) (by simp; omega))).trans (HS2.out j hj)
    have HZ3 : Hid (Bk w3 w.heap.size 79 (secCells z1)) := (hg3.block _ (by omega) (by simp; omega)).trans HZ12.out
    have HB3 : Hid (Below w.heap.size w w3) := HB2.out.grown hg3 (by omega) (fun k hk => by cases hk; omega)
    have HE3 : Hid (w3.heap.size = w2.heap.size) := hs3
    clear c0 HS2 HZ12 hz3 hs1 hs2 hs3
    have hi' : (i : Int) < (d.n : Int) := by omega
    go_wp2_with (first
      | (refine wp_load_sec rfl _ rfl S _ rfl (d.sure i) HSS.out.1 HS3.out ?_)
      | (refine wp_store_new rfl _ _ rfl w.heap.size rfl (d.sure i) rfl HSS.out.1 _ _ HZ3.out (secCells_512 hl1) ?_; intro w4 hz4 hg4 hs4; refine Hid.out ?_))
    unfold Hid
    have hs1 := HE1.out
    have hs2 := HE2.out
    have hs3 := HE3.out
    have HB4 : Hid (Below w.heap.size w w4) := HB3.out.grown hg4 (by omega) (fun k hk => by cases hk; omega)
    have HZ4 : Hid (SecAt w4 w.heap.size 0 (d.sure i)) := SecAt.of_bk hz4 HSS.out.1
    clear hz4 c0'
    go_wp2
    refine bodyPost_ret (results_sec rfl rfl HSS.out.1 HZ4.out) rfl ?_
    exact ⟨by simp [Dk.last, hfi], HB4.out⟩
  | some x =>
    obtain rfl := hxs x hfi
    go_wp2_with (first
      | (refine wp_store_new rfl _ _ rfl w1.heap.size rfl xs rfl hxl _ _ HZ2.out (secCells_512 hl2) ?_; intro w3 hz3 hg3 hs3; refine Hid.out ?_))
    unfold Hid
    have hs1 := HE1.out
    have hs2 := HE2.out
    have HZ3 : Hid (Bk w3 w.heap.size 79 (secCells z1)) := (hg3.block _ (by omega) (by simp; omega)).trans HZ12.out
    have HB3 : Hid (Below w.heap.size w w3) := HB2.out.grown hg3 (by omega) (fun k hk => by cases hk; omega)
    have HX3 : Hid (SecAt w3 w1.heap.size 0 xs) := SecAt.of_bk hz3 hxl
    have HE3 : Hid (w3.heap.size = w2.heap.size) := hs3
    clear c0 HS2 HZ12 hz3 hs1 hs2 hs3
    go_wp2_with (first
      | (refine wp_load_sec rfl _ rfl w1.heap.size 0 rfl xs hxl HX3.out ?_)
      | (refine wp_store_new rfl _ _ rfl w.heap.size rfl xs rfl hxl _ _ HZ3.out (secCells_512 hl1) ?_; intro w4 hz4 hg4 hs4; refine Hid.out ?_))
    unfold Hid
    have hs1 := HE1.out
    have hs2 := HE2.out
    have hs3 := HE3.out
    have HB4 : Hid (Below w.heap.size w w4) := HB3.out.grown hg4 (by omega) (fun k hk => by cases hk; omega)
    have HZ4 : Hid (SecAt w4 w.heap.size 0 xs) := SecAt.of_bk hz4 hxl
    clear hz4
    go_wp2
    refine bodyPost_ret (results_sec rfl rfl hxl HZ4.out) rfl ?_
    exact ⟨by simp [Dk.last, hfi], HB4.out⟩

theorem Dk.reach_ok {d : Dk} {i : Int} (h : d.reach i = 0) : d.down = false ∧ ∃ k : Nat, i = (k : Int) ∧ k < d.n := by
  unfold Dk.reach at h
  split at h
  · cases h
  · split at h
    · cases h
    · rename_i h1 h2
      exact ⟨by simpa using h1, i.toNat, by omega, by omega⟩

set_option maxHeartbeats 2000000 in
theorem read_bad {w : World} {B : Nat} {bs : List Nat} {d : Dk} (h : Dsk w B bs d) (i : Int) (hr : d.reach i ≠ 0) :
    Calls Try.prog 26 #[.pointer (some ⟨B, 0, none⟩), .int .i64 i] w fun e w' => e = .returned (.tuple #[.slice none 0 0, .int .i64 (d.reach i)]) ∧ w' = w := by
  have hc := reach_any h i
  clear h
  have hb : (d.reach i != 0) = true := by simpa using hr
  generalize d.reach i = r at *
  go_enter Try.func26, Try.ntmps26
  go_wp2_with fail
  refine hc.mono ?_
  rintro e w1 ⟨rfl, rfl⟩
  clear hc
  go_wp2
  go_ret2
  exact ⟨rfl, rfl⟩

set_option maxHeartbeats 2000000 in
theorem read_ok {w : World} {B : Nat} {bs : List Nat} {d : Dk} (h : Dsk w B bs d) (i : Nat) (hi : i < d.n) (hd : d.down = false) :
    Calls Try.prog 26 #[.pointer (some ⟨B, 0, none⟩), .int .i64 (i : Int)] w fun e w' => ∃ g, e = .returned (.tuple #[.slice (some ⟨g, 0, none⟩) 512 512, .int .i64 0]) ∧ w.heap.size ≤ g ∧ Bk w' g 5 (secCells (d.last i)) ∧ Below w.heap.size w w' := by
  have hc := reach_any h (i : Int)
  rw [show d.reach (i : Int) = 0 by simp [Dk.reach, hd]; omega] at hc
  have hla := last_any h i hi
  have HX : Hid (Sec (d.last i)) := by
    obtain ⟨S, M, p, c, kb, -, h⟩ := h
    unfold Dk.last
    cases hfi : d.dirty i with
    | none => exact h.secS i hi
    | some x => exact h.secD i x hfi
  clear h
  generalize d.last i = xs at *
  go_enter Try.func26, Try.ntmps26
  go_wp2_with fail
  refine hc.mono ?_
  rintro e w1 ⟨rfl, rfl⟩
  clear hc
  go_wp2_with fail
  refine hla.mono ?_
  rintro e w2 ⟨rfl, hb2⟩
  clear hla
  have HB2 : Hid (Below w1.heap.size w1 w2) := hb2
  clear hb2
  go_wp2_with (refine wp_alloc_sec rfl rfl ?_; intro w3 z3 hl3 _ hz3 hb3 hs3; refine Hid.out ?_)
  unfold Hid
  have HB3 : Hid (Below w1.heap.size w1 w3) := HB2.out.trans (hb3.mono HB2.out.size)
  have HE3 : Hid (w3.heap.size = w2.heap.size + 1) := hs3
  clear hb3 hs3
  go_wp2_with (refine wp_store_new rfl _ _ rfl w2.heap.size rfl xs rfl HX.out.1 _ _ hz3 (secCells_512 hl3) ?_; intro w4 hz4 hg4 hs4; refine Hid.out ?_)
  unfold Hid
  have hs3 := HE3.out
  have h12 := HB2.out.size
  have HB4 : Hid (Below w1.heap.size w1 w4) := HB3.out.grown hg4 (by omega) (fun k hk => by cases hk; omega)
  have HZ4 : Hid (Bk w4 w2.heap.size 79 (secCells xs)) := hz4
  have HE4 : Hid (w4.heap.size = w2.heap.size + 1) := by rw [Hid]; omega
  clear hz3 hz4 hg4 hs3 hs4 h12
  go_wp2_with (refine wp_make_sec rfl _ _ rfl rfl rfl ?_; intro w5 z5 hl5 _ hz5 hb5 hs5; refine Hid.out ?_)
  unfold Hid
  have hs4 := HE4.out
  have h12 := HB2.out.size
  have HB5 : Hid (Below w1.heap.size w1 w5) := HB4.out.trans (hb5.mono HB4.out.size)
  have HS5 : Hid (SecAt w5 w2.heap.size 0 xs) := SecAt.of_bk (HZ4.out.below hb5 (by omega)) HX.out.1
  have HE5 : Hid (w5.heap.size = w4.heap.size + 1) := hs5
  have HZ5 : Hid (Bk w5 w4.heap.size 5 (secCells z5)) := hz5
  clear hz5 hb5 hs5 hs4 h12
  go_wp2_with (refine wp_copy_sec rfl _ _ rfl w4.heap.size w2.heap.size 0 _ _ rfl rfl _ _ HZ5.out (secCells_512 hl5) xs HX.out.1 HS5.out ?_; intro w6 hz6 hg6 hs6; refine Hid.out ?_)
  unfold Hid
  have hs4 := HE4.out
  have hs5 := HE5.out
  have h12 := HB2.out.size
  have HB6 : Hid (Below w1.heap.size w1 w6) := HB5.out.grown hg6 (by omega) (fun k hk => by cases hk; omega)
  have HZ6 : Hid (Bk w6 w4.heap.size 5 (secCells xs)) := hz6
  have h14 : w1.heap.size ≤ w4.heap.size := by omega
  clear hz6 hs4 hs5 h12 hs6
  go_wp2
  go_ret2
  exact ⟨w4.heap.size, rfl, h14, HZ6.out, HB6.out⟩

end Go.Proofs.Ytpggnejifpcnmaa
