/- An oracle held against the document's. -/
import Derived.Test.YtdgphlghmjnjfaaOrSt
namespace Go.Proofs.Ytdgphlghmjnjfaa
open Go.RowKit Go.Maps Go.Shelf
set_option linter.unusedVariables false
set_option maxRecDepth 100000

set_option maxHeartbeats 8000000 in
theorem equal_any {w wr : World} {B M R : Nat} {v : Value} {o : Or} {ats : List Nat} (h : Bo w wr B M R v o ats) : Calls Try.prog 16 #[.pointer (some ⟨B, 0, none⟩), .pointer (some ⟨R, 0, none⟩)] wr fun e w' => e = .returned (.bool true) ∧ Below wr.heap.size wr w' := by
  obtain ⟨q, c, rfl, hnc⟩ := row_form h.rf.row
  have HH : Hid (Bo w wr B M R (.slice q o.pendL.length c) o ats) := h
  have HG : Hid (Goes wr.drew (.pointer (some ⟨B, 0, none⟩)) [B, M] o.abv) := goes_any (h.is.below (Below.refl _ _).drew) h.ok
  have HL : Hid (o.abv.length ≤ 1099511627776) := by
    show _ ≤ _
    rw [o.abv_len]
    have := h.ok.max
    omega
  have c1 := h.rf.c1
  have HT : Hid (∀ W, Below wr.drew.heap.size wr.drew W → W.cell? ⟨R, 1, none⟩ = some (.slice q o.pendL.length c) ∧ ∀ (j x : Nat), o.pendL[j]? = some x → ∃ G, q = some ⟨G, 0, none⟩ ∧ G < W.heap.size ∧ W.cell? ⟨G, j, none⟩ = some (.int .i64 (x : Int))) := by
    intro W hW
    have hb : Below wr.heap.size wr W := ((Below.refl _ _).drew).trans hW
    have hf := h.rf.below hb
    refine ⟨hf.c1, fun j x hx => ?_⟩
    have hjl := (List.getElem?_eq_some_iff.1 hx).1
    obtain ⟨g, k, he⟩ := row_some hf.row (by omega)
    cases he
    exact ⟨g, rfl, row_block hf.row g rfl, ints_cells hf.row hx⟩
  clear h
  obtain ⟨n, hn⟩ : ∃ n, o.pendL.length = n := ⟨_, rfl⟩
  have HN : Hid (o.pendL.length = n) := hn
  rw [hn] at c1 HT
  clear hn hnc
  go_enter Try.func16, Try.ntmps16
  go_wp2_with fail
  go_region_held3 (fun w' => w'.cell? ⟨R, 1, none⟩ = some (.slice q n c)) (go_keep) (first
    | (go_at_call 26; refine (pending_any HG.out HL.out).mono ?_; rintro r w3 ⟨b, S, rfl, hav, hS, hb3⟩; have HA3 : Hid (Av w3 b S (pends o.abv) ∧ Below wr.drew.heap.size wr.drew w3) := ⟨hav, hb3⟩; have s1 := (HT.out w3 hb3).1; clear hav hb3 hS)
    | (go_at_call 25; refine (told_any HA3.out.1 (show (pends o.abv).length = n from HN.out) (HT.out w3 HA3.out.2).2).mono ?_; rintro r w4 ⟨rfl, hb4⟩; have HB4 : Hid (Below wr.heap.size wr w4) := ((Below.refl _ _).drew.trans HA3.out.2).trans (hb4.mono HA3.out.2.size); have s2 := (HT.out w4 (HA3.out.2.trans (hb4.mono HA3.out.2.size))).1; clear hb4))
  have H4 : Hid (Bo w w4 B M R (.slice q n c) o ats) := by
    have := HH.out.blw HB4.out
    rw [HN.out] at this
    exact this
  clear HA3 HT HG HL
  go_wp2_with fail
  go_loopw [5] (fun i wz => ∃ k : Int, -1 ≤ k ∧ k ≤ 18 ∧ i = .int .i64 k ∧ wz = w4) (fun i _ => (18 - intOf i).toNat)
  case atStart => exact ⟨-1, by omega, by omega, rfl, rfl⟩
  case round =>
    obtain ⟨k, hk1, hk2, rfl, rfl⟩ := hrel
    by_cases hlt : k ≤ 17
    · go_wp2_with fail
      refine (snap_all H4.out.is H4.out.ok k).mono ?_
      rintro r w5 ⟨rfl, rfl⟩
      go_wp2_with fail
      refine (rsnap_any H4.out.rf H4.out.ok k).mono ?_
      rintro r w6 ⟨rfl, rfl⟩
      generalize (o.snapR k).1 = a1
      generalize (o.snapR k).2 = a2
      go_wp2
      go_roundw
      case rel => exact ⟨k + 1, by omega, by omega, by go_num, trivial⟩
      case measure => simp [intOf]; omega
    · obtain rfl : k = 18 := by omega
      have k0 := H4.out.is.c0
      have k1 := H4.out.is.c1
      have k2 := H4.out.is.c2
      have z0 := H4.out.rf.c0
      have HD : Hid (∀ m, Bo w (wr.drewN m) B M R (.slice q n c) o ats) := fun m => H4.out.blw ⟨rfl, rfl, rfl, Nat.le_refl _, fun _ _ => rfl⟩
      go_wp2_with fail
      go_quiet (first
        | (go_at_call 11; refine Calls.quiet_of_same (last_any (M := M) (n := (o.last : Int)) (by first | exact (HD.out 0).is.c0 | exact (HD.out _).is.c0) (by first | exact (HD.out 0).is.c2 | exact (HD.out _).is.c2)))
        | (go_at_call 12; refine Calls.quiet_of_same (published_any (M := M) (n := (o.pub : Int)) (by first | exact (HD.out 0).is.c1 | exact (HD.out _).is.c1) (by first | exact (HD.out 0).is.c2 | exact (HD.out _).is.c2)))
        | (go_at_call 13; refine Calls.quiet_of_same (rpub_any (v := .slice q n c) (o := o) (by first | exact (HD.out 0).ok | exact (HD.out _).ok) (by first | exact (HD.out 0).rf.c0 | exact (HD.out _).rf.c0) (by first | exact (HD.out 0).rf.c1 | exact (HD.out _).rf.c1) (by first | exact (HD.out 0).rf.row | exact (HD.out _).rf.row)))
        | (go_at_call 14; refine Calls.quiet_of_same (water_any (M := M) (o := o) (by first | exact (HD.out 0).is | exact (HD.out _).is) (by first | exact (HD.out 0).ok | exact (HD.out _).ok)))
        | (go_at_call 15; refine Calls.quiet_of_same (rwater_any (v := .slice q n c) (o := o) (ats := ats) (by first | exact (HD.out 0).rf | exact (HD.out _).rf) (by first | exact (HD.out 0).ok | exact (HD.out _).ok))))
      go_wp2
      go_ret
      exact ⟨by simp, HB4.out.trans ⟨rfl, rfl, rfl, Nat.le_refl _, fun _ _ => rfl⟩⟩
end Go.Proofs.Ytdgphlghmjnjfaa
