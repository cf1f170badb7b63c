/- The document's bytes of commits, chunks and masters. -/
import Derived.Test.YtlfgclmgpbaenaaRcRef
import Derived.Test.YtlfgclmgpbaenaaRcCh
import Derived.Test.YtlfgclmgpbaenaaRcMs
namespace Go.Proofs.Ytlfgclmgpbaenaa
open Go.RowKit
set_option linter.unusedVariables false
set_option maxRecDepth 100000

set_option maxHeartbeats 4000000 in
theorem rcommit_any (ts : Int) (p : Option Addr) (len cap : Nat) (l : List Wr) (w : World) (hin : InW w p len cap l) :
    Calls Try.prog 23 #[.agg #[.int .i64 ts, .slice p len cap]] w fun e w' => ∃ v, e = .returned (.tuple #[v, .int .i64 (Rc.comE ts l)]) ∧ Came w w' v (Rc.comE ts l) (Rc.comB ts l) := by
  have hb0 : Below w.heap.size w (w.alloc (.cells #[.int .i64 ts, .slice p len cap] 24)) := (Below.refl _ _).alloc (Nat.le_refl _) _
  have HK0 : Hid (Bk (w.alloc (.cells #[.int .i64 ts, .slice p len cap] 24)) w.heap.size 24 #[.int .i64 ts, .slice p len cap]) := Bk.new _ _ _
  have HB0 : Hid (Below w.heap.size w (w.alloc (.cells #[.int .i64 ts, .slice p len cap] 24))) := hb0
  have HI0 : Hid (InW (w.alloc (.cells #[.int .i64 ts, .slice p len cap] 24)) p len cap l) := hin.up hb0
  have hll := hin.lenq
  clear hin hb0
  go_enter Try.func23, Try.ntmps23
  go_wp2_with fail
  refine (rcheckCommit_any ts p len cap l _ HI0.out).mono ?_
  rintro e w1 ⟨rfl, hb1⟩
  have HK1 : Hid (Bk w1 w.heap.size 24 #[.int .i64 ts, .slice p len cap]) := HK0.out.below hb1 HK0.out.lt
  have HB1 : Hid (Below w.heap.size w w1) := HB0.out.trans (hb1.mono HB0.out.size)
  have HI1 : Hid (∀ w', Below w1.heap.size w1 w' → InW w' p len cap l) := fun w' hb => (HI0.out.up hb1).up hb
  have HKK : Hid (∀ w', Below w1.heap.size w1 w' → Bk w' w.heap.size 24 #[.int .i64 ts, .slice p len cap]) := fun w' hb => HK1.out.below hb HK1.out.lt
  clear hb1 HK0 HB0 HI0
  by_cases he : Rc.comE ts l = 0
  · have heb : (Rc.comE ts l != 0) = false := by simpa using he
    obtain ⟨⟨t0, t1⟩, hl64, -, hsz, -⟩ := Rc.comE_sizes he
    have HE : Hid (Rc.comE ts l = 0) := he
    have HZ : Hid (∀ g ∈ l, g.key.size ≤ 64 ∧ g.val.size ≤ 256) := hsz
    have HL : Hid (l.length = len) := hll
    have hlen : len ≤ 64 := by omega
    have ca0 : w1.cell? ⟨w.heap.size, 0, none⟩ = some (.int .i64 ts) := HK1.out.cell 0
    have ca1 : w1.cell? ⟨w.heap.size, 1, none⟩ = some (.slice p len cap) := HK1.out.cell 1
    have he1 := Rc.enc_le ts
    have he2 := Rc.enc_le len
    clear he hsz hll hl64
    go_wp2_with fail
    have hG0 : Gt w1 w1.drew (.slice none 0 0) [] := (Gt.nil w1).up ((Below.refl _ _).drew)
    have HG0 : Hid (Gt w1 w1.drew (.slice none 0 0) []) := hG0
    have HCC : Hid (∀ w', Below w1.heap.size w1 w' → w'.cell? ⟨w.heap.size, 0, none⟩ = some (.int .i64 ts) ∧ w'.cell? ⟨w.heap.size, 1, none⟩ = some (.slice p len cap)) := fun w' hb => ⟨(HKK.out w' hb).cell 0, (HKK.out w' hb).cell 1⟩
    clear hG0
    go_region_held3 (fun w' => w'.cell? ⟨w.heap.size, 0, none⟩ = some (.int .i64 ts) ∧ w'.cell? ⟨w.heap.size, 1, none⟩ = some (.slice p len cap)) (go_keep) (first
      | (go_at_call_of 50 (Value.slice none 0 0); refine (rnum_any HG0.out ts (by omega) (by omega) (by simp)).mono ?_; rintro e w2 ⟨v2, rfl, hG2⟩; have hk2 := HCC.out w2 hG2.2)
      | (go_at_call 50; refine (rnum_any hG2 len (by omega) (by omega) (by simp; omega)).mono ?_; rintro e w3 ⟨v3, rfl, hG3⟩; have hk3 := HCC.out w3 hG3.2))
    have HG3 : Hid (Gt w1 w3 v3 (Cd.enc ts ++ Cd.enc l.length ++ Rc.wsB (l.take 0))) := by
      rw [HL.out]
      simpa [Hid, Rc.wsB] using hG3
    clear hG2 hG3 hk2 hk3 HG0 ca0 ca1
    go_wp2_with fail
    go_loopw [5, 6] (fun b i wr => ∃ (k : Nat), k ≤ len ∧ i = .int .i64 k ∧ Hid (Gt w1 wr b (Cd.enc ts ++ Cd.enc l.length ++ Rc.wsB (l.take k))) ∧ Hid ((Rc.wsB (l.take k)).length ≤ 339 * k)) (fun _ i _ => len - (intOf i).toNat)
    case atStart => exact ⟨0, Nat.zero_le _, rfl, HG3, by simp [Hid, Rc.wsB]⟩
    case round =>
      obtain ⟨k, hk, rfl, HG, HQ⟩ := hrel
      clear HG3
      obtain ⟨-, d1⟩ := HCC.out wr HG.out.2
      by_cases hlt : k < len
      · have hli : (k : Int) < (len : Int) := by omega
        obtain ⟨b, o, g, rfl, hg, hblt, c0, c1, c2⟩ := (HI1.out wr HG.out.2).at hlt
        have hgz := HZ.out g (List.mem_of_getElem? hg)
        have HS : Hid (Rc.wsB (l.take (k + 1)) = Rc.wsB (l.take k) ++ Rc.wrB g) := Rc.wsB_snoc hg
        obtain ⟨X, hX⟩ : ∃ X, Cd.enc ts ++ Cd.enc (l.length : Int) ++ Rc.wsB (l.take k) = X := ⟨_, rfl⟩
        have HX : Hid (Cd.enc ts ++ Cd.enc (l.length : Int) ++ Rc.wsB (l.take k) = X) := hX
        rw [hX] at HG
        have hln : X.length ≤ 1000000 := by
          have := HQ.out
          rw [← hX]
          simp only [List.length_append]
          rw [HL.out]
          omega
        have hwl := Rc.wrB_le hgz.1 hgz.2
        clear hg hX
        go_wp2_with fail
        refine (writeForm_any g _ (by omega) (by omega) (by omega)).mono ?_
        rintro e w5 ⟨v5, rfl, h5⟩
        obtain ⟨q5, c5, hv5, -, hq5, hby5⟩ := h5.1.bys
        subst hv5
        have HG5 : Hid (Gt w1 w5 u5 X) := HG.out.up h5.2
        have HY5 : Hid (Bys w5 q5 (Rc.wrB g)) := hby5
        have HN5 : Hid (q5 = none → (Rc.wrB g).length = 0 ∧ c5 = 0) := hq5
        have HS5 : Hid (w1.heap.size ≤ w5.heap.size) := HG5.out.2.size
        clear h5 hq5 hby5 HG c0 c1 c2 d1
        go_wp2_with (at_builtin; refine app8 w5 rfl _ _ rfl w1.heap.size u5 X.length X rfl HG5.out.1 q5 (Rc.wrB g).length c5 (Rc.wrB g) rfl HY5.out rfl HN5.out (by omega) HS5.out ?_; intro v6 w6 ho6 hb6; refine Hid.out ?_)
        have HG6 : Hid (Gt w1 w6 v6 (Cd.enc ts ++ Cd.enc l.length ++ Rc.wsB (l.take (k + 1)))) := by
          rw [HS.out, ← List.append_assoc, HX.out]
          refine ⟨?_, HG5.out.2.trans hb6⟩
          rw [List.length_append]
          exact ho6
        have HQ6 : Hid ((Rc.wsB (l.take (k + 1))).length ≤ 339 * (k + 1)) := by
          have := HQ.out
          unfold Hid
          rw [HS.out, List.length_append]
          omega
        clear ho6 hb6 HG5 HY5 HN5
        unfold Hid
        go_wp2
        go_roundw
        case rel => exact ⟨k + 1, by omega, by go_num, HG6, HQ6⟩
        case measure => simp [intOf]; omega
      · have hli : ¬ ((k : Int) < (len : Int)) := by omega
        have hG := HG.out
        rw [List.take_of_length_le (by have := HL.out; omega)] at hG
        have HC : Hid (Came w wr u5 (Rc.comE ts l) (Rc.comB ts l)) := ⟨HB1.out.trans (hG.2.mono HB1.out.size), fun _ => hG.1.mono HB1.out.size, fun h => absurd HE.out h⟩
        clear hG
        go_wp2
        go_ret2
        exact ⟨_, by rw [HE.out]; rfl, HC.out⟩
  · have heb : (Rc.comE ts l != 0) = true := by simpa using he
    have HC : Hid (Came w w1 (.slice none 0 0) (Rc.comE ts l) (Rc.comB ts l)) := ⟨HB1.out, fun h => absurd h he, fun _ => rfl⟩
    clear he
    go_wp2
    go_ret2
    exact ⟨_, rfl, HC.out⟩

end Go.Proofs.Ytlfgclmgpbaenaa
