/- Disks: writing. -/
import Derived.Test.YtpggnejifpcnmaaDkPower
namespace Go.Proofs.Ytpggnejifpcnmaa
open Go.RowKit Go.Shelf Go.Maps
set_option linter.unusedVariables false

theorem IsDk.setDirty {w w' : World} {B S M : Nat} {p : Option Addr} {c : Nat} {kb : List Nat} {d : Dk} (h : IsDk w B S M p c kb d) (k : Tn [M] w w') {i : Nat} (hi : i < d.n) {xs : List Int} (hx : Sec xs) (hm : w'.ownsMap Try.prog 3 secElem M d.n (datum (upd d.dirty i xs) d.n)) :
    IsDk w' B S M p c kb { d with dirty := upd d.dirty i xs } := by
  obtain ⟨n1, n2, n3⟩ := h.ne_bs
  obtain ⟨cur, hc, hz⟩ := h.sure
  have hk := h.kne
  exact {
    blk := h.blk.tn k (by simp; omega)
    sure := ⟨cur, hc.tn k (by simp; omega), hz⟩
    map := hm
    keep := h.keep.tn k (fun ad ha hl => by simp; intro e; exact hk.2.2 (e ▸ h.kbs ad ha hl))
    kbs := h.kbs
    kne := h.kne
    klt := fun b hb => Nat.lt_of_lt_of_le (h.klt b hb) k.size
    n1 := h.n1
    n2 := h.n2
    secS := h.secS
    secD := fun j x hj => by
      simp only [upd] at hj
      split at hj
      · cases hj
        exact hx
      · exact h.secD j x hj
    lowD := fun j hj => by
      have : ¬ j = i := by have : d.n ≤ j := hj; omega
      simp only [upd, if_neg this]
      exact h.lowD j hj
    left := h.left
    knil := h.knil
    kcap := h.kcap }

theorem turns_then {w w1 w2 : World} {B : Nat} {bs bs1 : List Nat} {d2 : Dk} (t1 : Tn bs w w1) (s1 : ∀ b ∈ bs1, b ∈ bs ∨ w.heap.size ≤ b) (h2 : Turns w1 w2 B bs1 d2) : Turns w w2 B bs d2 := by
  obtain ⟨bs2, h2, t2, s2⟩ := h2
  refine ⟨bs2, h2, t1.trans t2 s1, fun b hb => ?_⟩
  rcases s2 b hb with hb | hb
  · exact s1 b hb
  · exact .inr (by have := t1.size; omega)

set_option maxHeartbeats 2000000 in
theorem write_bad {w : World} {B : Nat} {bs : List Nat} {d : Dk} (h : Dsk w B bs d) (i : Int) (v : Value) (hr : d.reach i ≠ 0) :
    Calls Try.prog 23 #[.pointer (some ⟨B, 0, none⟩), .int .i64 i, v] w fun e w' => e = .returned (.int .i64 (d.reach i)) ∧ w' = w := by
  have hc := reach_any h i
  clear h
  have hb : (d.reach i != 0) = true := by simpa using hr
  generalize d.reach i = r at *
  go_enter Try.func23, Try.ntmps23
  go_wp2_with fail
  refine hc.mono ?_
  rintro e w1 ⟨rfl, rfl⟩
  clear hc
  go_wp2
  go_ret
  exact ⟨rfl, rfl⟩

set_option maxHeartbeats 2000000 in
theorem write_len {w : World} {B : Nat} {bs : List Nat} {d : Dk} (h : Dsk w B bs d) (i : Int) (hr : d.reach i = 0) (p : Option Addr) (len c : Nat) (hl : len ≠ 512) :
    Calls Try.prog 23 #[.pointer (some ⟨B, 0, none⟩), .int .i64 i, .slice p len c] w fun e w' => e = .returned (.int .i64 1) ∧ w' = w := by
  have hc := reach_any h i
  rw [hr] at hc
  clear h hr
  have hb : ((len : Int) != 512) = true := by simp; omega
  go_enter Try.func23, Try.ntmps23
  go_wp2_with fail
  refine hc.mono ?_
  rintro e w1 ⟨rfl, rfl⟩
  clear hc
  go_wp2
  go_ret
  exact ⟨rfl, rfl⟩

/-- A sector is written. -/
def Dk.wrote (d : Dk) (i : Nat) (xs : List Int) : Int × Dk :=
  if ({ d with dirty := upd d.dirty i xs } : Dk).count.1 = true then (6, ({ d with dirty := upd d.dirty i xs } : Dk).count.2.lose ({ d with dirty := upd d.dirty i xs } : Dk).count.2.keep) else (0, ({ d with dirty := upd d.dirty i xs } : Dk).count.2)

set_option maxRecDepth 100000 in
set_option maxHeartbeats 4000000 in
theorem write_ok {w : World} {B : Nat} {bs : List Nat} {d : Dk} (h : Dsk w B bs d) (hd : d.down = false) (i : Nat) (hi : i < d.n) (b o c : Nat) (xs : List Int) (hs : Sec xs) (hsrc : SecAt w b o xs) :
    Calls Try.prog 23 #[.pointer (some ⟨B, 0, none⟩), .int .i64 (i : Int), .slice (some ⟨b, o, none⟩) 512 c] w fun e w' => e = .returned (.int .i64 (d.wrote i xs).1) ∧ Turns w w' B bs (d.wrote i xs).2 := by
  have hc := reach_any h (i : Int)
  rw [show d.reach (i : Int) = 0 by simp [Dk.reach, hd]; omega] at hc
  obtain ⟨S, M, pd, cd, kb, rfl, h⟩ := h
  have HD : Hid (IsDk w B S M pd cd kb d) := h
  have hlt := h.lt
  have hBlt : B < w.heap.size := hlt B (by simp)
  have hMlt : M < w.heap.size := hlt M (by simp)
  have hn2 := h.n2
  obtain ⟨-, c1, -⟩ := h.cells
  have HS : Hid (Sec xs) := hs
  have hblt : b < w.heap.size := World.block_lt_of_cell? w _ (hsrc 0 (by omega))
  have HSRC : Hid (SecAt w b o xs) := hsrc
  clear h hlt hs hsrc
  go_enter Try.func23, Try.ntmps23
  go_wp2_with fail
  refine hc.mono ?_
  rintro e w0 ⟨rfl, rfl⟩
  clear hc
  go_wp2_with (refine wp_alloc_sec rfl rfl ?_; intro w1 z1 hl1 _ hz1 hb1 hs1; refine Hid.out ?_)
  unfold Hid
  have HSRC1 : Hid (SecAt w1 b o xs) := fun j hj => (hb1.cell (p := ⟨b, o + j, none⟩) hblt).trans (HSRC.out j hj)
  have HZ1 : Hid (Bk w1 w0.heap.size 79 (secCells z1)) := hz1
  have HE1 : Hid (w1.heap.size = w0.heap.size + 1) := hs1
  have HB1 : Hid (Below w0.heap.size w0 w1) := hb1
  clear hz1 hs1 hb1
  go_wp2_with (refine wp_copy_sec rfl _ _ rfl w0.heap.size b o _ _ rfl rfl _ _ HZ1.out (secCells_512 hl1) xs HS.out.1 HSRC1.out ?_; intro w2 hz2 hg2 hs2; refine Hid.out ?_)
  unfold Hid
  have hs1 := HE1.out
  have HB2 : Hid (Below w0.heap.size w0 w2) := HB1.out.grown hg2 (by omega) (fun k hk => by cases hk; omega)
  have HX2 : Hid (SecAt w2.drew w0.heap.size 0 xs) := SecAt.of_bk hz2.drew HS.out.1
  have HM2 : Hid (w2.drew.ownsMap Try.prog 3 secElem M d.n (datum d.dirty d.n)) := (owns_tn HD.out.map (Tn.of_below HB2.out []) (by simp)).drew
  have c1' : w2.cell? ⟨B, 1, none⟩ = some (.map (some M)) := (HB2.out.cell (p := ⟨B, 1, none⟩) hBlt).trans c1
  have hw02 : w0.heap.size ≤ w2.heap.size := HB2.out.size
  clear c1 hz2 hg2 hs2 hs1 HSRC1 HZ1
  go_wp2_with fail
  refine wp_region_tail 6 (by kernel_rfl) (by kernel_rfl) ?_
  simp only [List.take_succ_cons, List.take_zero, List.drop_succ_cons, List.drop_zero]
  iterate 5 still_step
  refine still_load_sec rfl _ rfl w0.heap.size 0 rfl xs HS.out.1 HX2.out ?_
  refine wpStill_nil ?_
  refine wp_update_sec rfl _ _ _ rfl M d.n d.dirty rfl HM2.out i hi hn2 rfl xs HS.out rfl ?_
  intro w3 hown3 hg3 hs3
  have HD3 : Hid (IsDk w3 B S M pd cd kb { d with dirty := upd d.dirty i xs }) := by
    have t3 : Tn [M] w0 w3 := ((Tn.of_below HB2.out [M]).drew).grown hg3 (fun k hk => by cases hk; simp)
    exact HD.out.setDirty t3 hi HS.out hown3
  have HT3 : Hid (Tn [M] w0 w3) := ((Tn.of_below HB2.out [M]).drew).grown hg3 (fun k hk => by cases hk; simp)
  clear hown3 hg3 hs3 c1' hw02
  refine wpList_nil ?_
  have hcnt := count_any (bs := B :: S :: M :: kb) ⟨S, M, pd, cd, kb, rfl, HD3.out⟩
  have HTU : Hid (Turns w0 w3 B (B :: S :: M :: kb) { d with dirty := upd d.dirty i xs }) := ⟨_, ⟨S, M, pd, cd, kb, rfl, HD3.out⟩, HT3.out.mono (by simp), fun b hb => .inl hb⟩
  have HWR : Hid (d.wrote i xs = if ({ d with dirty := upd d.dirty i xs } : Dk).count.1 = true then (6, ({ d with dirty := upd d.dirty i xs } : Dk).count.2.lose ({ d with dirty := upd d.dirty i xs } : Dk).count.2.keep) else (0, ({ d with dirty := upd d.dirty i xs } : Dk).count.2)) := rfl
  generalize ({ d with dirty := upd d.dirty i xs } : Dk) = d1 at *
  go_wp2_with fail
  refine hcnt.mono ?_
  rintro e w4 ⟨rfl, ht4⟩
  clear hcnt
  have HTU4 : Hid (Turns w0 w4 B (B :: S :: M :: kb) d1.count.2) := turns_then (HT3.out.mono (by simp)) (fun b hb => .inl hb) ht4
  clear ht4 HTU
  cases hh : d1.count.1 with
  | false =>
    have HW2 : Hid (d.wrote i xs = (0, d1.count.2)) := by rw [HWR.out, hh]; rfl
    go_wp2
    go_ret
    rw [HW2.out]
    exact ⟨rfl, HTU4.out⟩
  | true =>
    have HW2 : Hid (d.wrote i xs = (6, d1.count.2.lose d1.count.2.keep)) := by rw [HWR.out, hh]; rfl
    obtain ⟨bs4, h4, t4, s4⟩ := HTU4.out
    have hbl := blow_any h4
    have HBL : Hid _ := hbl
    clear hbl
    go_wp2_with fail
    refine Calls.mono HBL.out ?_
    rintro e w5 ⟨rfl, ht5⟩
    have HTU5 : Hid (Turns w0 w5 B (B :: S :: M :: kb) (d1.count.2.lose d1.count.2.keep)) := turns_then t4 s4 ht5
    clear ht5 HBL
    go_wp2
    go_ret
    rw [HW2.out]
    exact ⟨rfl, HTU5.out⟩

end Go.Proofs.Ytpggnejifpcnmaa
