/- The document's bytes of chunks. -/
import Derived.Test.YtlfgclmgpbaenaaRcRef2
namespace Go.Proofs.Ytlfgclmgpbaenaa
open Go.RowKit
set_option linter.unusedVariables false
set_option maxRecDepth 100000

set_option maxHeartbeats 4000000 in
theorem rchunk_any (n : Int) (d : Bool) (p : Option Addr) (len cap : Nat) (l : List St) (w : World) (hin : InS w p len cap l) :
    Calls Try.prog 25 #[.agg #[.int .i64 n, .slice p len cap, .bool d]] w fun e w' => ∃ v, e = .returned (.tuple #[v, .int .i64 (Rc.chE n l)]) ∧ Came w w' v (Rc.chE n l) (Rc.chB n d l) := by
  have hb0 : Below w.heap.size w (w.alloc (.cells #[.int .i64 n, .slice p len cap, .bool d] 27)) := (Below.refl _ _).alloc (Nat.le_refl _) _
  have HK0 : Hid (Bk (w.alloc (.cells #[.int .i64 n, .slice p len cap, .bool d] 27)) w.heap.size 27 #[.int .i64 n, .slice p len cap, .bool d]) := Bk.new _ _ _
  have HB0 : Hid (Below w.heap.size w (w.alloc (.cells #[.int .i64 n, .slice p len cap, .bool d] 27))) := hb0
  have HI0 : Hid (InS (w.alloc (.cells #[.int .i64 n, .slice p len cap, .bool d] 27)) p len cap l) := hin.up hb0
  have hll := hin.lenq
  have HTS : Hid (∀ g ∈ l, -9223372036854775808 ≤ g.ts ∧ g.ts ≤ 9223372036854775807) := hin.size
  clear hin hb0
  go_enter Try.func25, Try.ntmps25
  go_wp2_with fail
  refine (rcheckChunk_any n p len cap l d _ HI0.out).mono ?_
  rintro e w1 ⟨rfl, hb1⟩
  have HK1 : Hid (Bk w1 w.heap.size 27 #[.int .i64 n, .slice p len cap, .bool d]) := HK0.out.below hb1 HK0.out.lt
  have HB1 : Hid (Below w.heap.size w w1) := HB0.out.trans (hb1.mono HB0.out.size)
  have HI1 : Hid (∀ w', Below w1.heap.size w1 w' → InS w' p len cap l) := fun w' hb => (HI0.out.up hb1).up hb
  have HKK : Hid (∀ w', Below w1.heap.size w1 w' → Bk w' w.heap.size 27 #[.int .i64 n, .slice p len cap, .bool d]) := fun w' hb => HK1.out.below hb HK1.out.lt
  clear hb1 HK0 HB0 HI0
  by_cases he : Rc.chE n l = 0
  · have heb : (Rc.chE n l != 0) = false := by simpa using he
    obtain ⟨⟨t0, t1⟩, hl64, hsz, -⟩ := Rc.chE_sizes he
    have HE : Hid (Rc.chE n l = 0) := he
    have HZ : Hid (∀ g ∈ l, g.key.size ≤ 64 ∧ g.val.size ≤ 256) := hsz
    have HL : Hid (l.length = len) := hll
    have hlen : len ≤ 64 := by omega
    have ca0 : w1.cell? ⟨w.heap.size, 0, none⟩ = some (.int .i64 n) := HK1.out.cell 0
    have ca2 : w1.cell? ⟨w.heap.size, 2, none⟩ = some (.bool d) := HK1.out.cell 2
    have ca1 : w1.cell? ⟨w.heap.size, 1, none⟩ = some (.slice p len cap) := HK1.out.cell 1
    have he1 := Rc.enc_le n
    have he2 := Rc.enc_le len
    clear he hsz hll hl64
    go_wp2_with fail
    have hG0 : Gt w1 w1.drew (.slice none 0 0) [] := (Gt.nil w1).up ((Below.refl _ _).drew)
    have HG0 : Hid (Gt w1 w1.drew (.slice none 0 0) []) := hG0
    have HCC : Hid (∀ w', Below w1.heap.size w1 w' → w'.cell? ⟨w.heap.size, 0, none⟩ = some (.int .i64 n) ∧ w'.cell? ⟨w.heap.size, 1, none⟩ = some (.slice p len cap) ∧ w'.cell? ⟨w.heap.size, 2, none⟩ = some (.bool d)) := fun w' hb => ⟨(HKK.out w' hb).cell 0, (HKK.out w' hb).cell 1, (HKK.out w' hb).cell 2⟩
    clear hG0
    go_region_held3 (fun w' => w'.cell? ⟨w.heap.size, 0, none⟩ = some (.int .i64 n) ∧ w'.cell? ⟨w.heap.size, 1, none⟩ = some (.slice p len cap) ∧ w'.cell? ⟨w.heap.size, 2, none⟩ = some (.bool d)) (go_keep) (first
      | (go_at_call_of 50 (Value.slice none 0 0); refine (rnum_any HG0.out n (by omega) (by omega) (by simp)).mono ?_; rintro e w2 ⟨v2, rfl, hG2⟩; have hk2 := HCC.out w2 hG2.2)
      | (go_at_call 51; refine (rflag_any hG2 d (by simp; omega)).mono ?_; rintro e w2b ⟨v2b, rfl, hG2b⟩; have hk2b := HCC.out w2b hG2b.2)
      | (go_at_call 50; refine (rnum_any hG2b len (by omega) (by omega) (by simp [Rc.encF]; omega)).mono ?_; rintro e w3 ⟨v3, rfl, hG3⟩; have hk3 := HCC.out w3 hG3.2))
    have HG3 : Hid (Gt w1 w3 v3 (Cd.enc n ++ Rc.encF d ++ Cd.enc l.length ++ Rc.stsB (l.take 0))) := by
      rw [HL.out]
      simpa [Hid, Rc.stsB] using hG3
    clear hG2b hk2b ca2
    clear hG2 hG3 hk2 hk3 HG0 ca0 ca1
    go_wp2_with fail
    go_loopw [5, 6] (fun b i wr => ∃ (k : Nat), k ≤ len ∧ i = .int .i64 k ∧ Hid (Gt w1 wr b (Cd.enc n ++ Rc.encF d ++ Cd.enc l.length ++ Rc.stsB (l.take k))) ∧ Hid ((Rc.stsB (l.take k)).length ≤ 347 * k)) (fun _ i _ => len - (intOf i).toNat)
    case atStart => exact ⟨0, Nat.zero_le _, rfl, HG3, by simp [Hid, Rc.stsB]⟩
    case round =>
      obtain ⟨k, hk, rfl, HG, HQ⟩ := hrel
      clear HG3
      obtain ⟨-, d1, -⟩ := HCC.out wr HG.out.2
      by_cases hlt : k < len
      · have hli : (k : Int) < (len : Int) := by omega
        obtain ⟨b, o, g, rfl, hg, hblt, c0, c1, c2⟩ := (HI1.out wr HG.out.2).at hlt
        have hgz := HZ.out g (List.mem_of_getElem? hg)
        have HS : Hid (Rc.stsB (l.take (k + 1)) = Rc.stsB (l.take k) ++ Rc.stB g) := Rc.stsB_snoc hg
        obtain ⟨X, hX⟩ : ∃ X, Cd.enc n ++ Rc.encF d ++ Cd.enc (l.length : Int) ++ Rc.stsB (l.take k) = X := ⟨_, rfl⟩
        have HX : Hid (Cd.enc n ++ Rc.encF d ++ Cd.enc (l.length : Int) ++ Rc.stsB (l.take k) = X) := hX
        rw [hX] at HG
        have hln : X.length ≤ 1000000 := by
          have := HQ.out
          rw [← hX]
          simp only [List.length_append, Rc.encF, List.length_singleton]
          rw [HL.out]
          omega
        have hwl := Rc.stB_le hgz.1 hgz.2
        have hgt := HTS.out g (List.mem_of_getElem? hg)
        have ek := Rc.encT_le g.key
        have ev := Rc.encT_le g.val
        have HLO : Hid (∀ w', Below w1.heap.size w1 w' → w'.cell? ⟨w.heap.size, 1, none⟩ = some (.slice (some ⟨b, o, none⟩) len cap) ∧ w'.cell? ⟨b, o + k * 3, none⟩ = some (.string g.key) ∧ w'.cell? ⟨b, o + k * 3 + 1, none⟩ = some (.string g.val) ∧ w'.cell? ⟨b, o + k * 3 + 2, none⟩ = some (.int .i64 g.ts)) := by
          intro w' hbw
          obtain ⟨-, z1, -⟩ := HCC.out w' hbw
          obtain ⟨b', o', g', hp', hg', -, z2, z3, z4⟩ := (HI1.out w' hbw).at hlt
          cases hp'
          rw [hg] at hg'
          cases hg'
          exact ⟨z1, z2, z3, z4⟩
        have HGd : Hid (Gt w1 wr.drew u5 X) := HG.out.up ((Below.refl _ _).drew)
        have hd1 : decide ((len : Int) ≤ (k : Int)) = false := by simp; omega
        have hd3 : decide (len ≤ k) = false := by simp; omega
        have hd5 : k < len := hlt
        clear hg hX HG
        go_wp2_with fail
        go_region_held3 (fun w' => w'.cell? ⟨w.heap.size, 1, none⟩ = some (.slice (some ⟨b, o, none⟩) len cap) ∧ w'.cell? ⟨b, o + k * 3, none⟩ = some (.string g.key) ∧ w'.cell? ⟨b, o + k * 3 + 1, none⟩ = some (.string g.val) ∧ w'.cell? ⟨b, o + k * 3 + 2, none⟩ = some (.int .i64 g.ts)) (go_keep) (first
          | (go_at_call_of 52 u5; refine (rtext_any HGd.out g.key (by omega) (by omega)).mono ?_; rintro e w5 ⟨v5, rfl, hG5⟩; have hk5 := HLO.out w5 hG5.2)
          | (go_at_call 52; refine (rtext_any hG5 g.val (by omega) (by simp; omega)).mono ?_; rintro e w6 ⟨v6, rfl, hG6⟩; have hk6 := HLO.out w6 hG6.2)
          | (go_at_call 50; refine (rnum_any hG6 g.ts hgt.1 hgt.2 (by simp; omega)).mono ?_; rintro e w7 ⟨v7, rfl, hG7⟩; have hk7 := HLO.out w7 hG7.2))
        have HG6 : Hid (Gt w1 w7 v7 (Cd.enc n ++ Rc.encF d ++ Cd.enc l.length ++ Rc.stsB (l.take (k + 1)))) := by
          have e6 : Cd.enc n ++ Rc.encF d ++ Cd.enc (l.length : Int) ++ Rc.stsB (l.take (k + 1)) = X ++ Rc.encT g.key ++ Rc.encT g.val ++ Cd.enc g.ts := by
            rw [HS.out, ← List.append_assoc, HX.out, Rc.stB]
            simp only [List.append_assoc]
          rw [e6]
          exact hG7
        have HQ6 : Hid ((Rc.stsB (l.take (k + 1))).length ≤ 347 * (k + 1)) := by
          have := HQ.out
          unfold Hid
          rw [HS.out, List.length_append]
          omega
        clear hG5 hG6 hG7 hk5 hk6 hk7 HLO HGd d1 c0 c1 c2
        go_wp2
        go_roundw
        case rel => exact ⟨k + 1, by omega, by go_num, HG6, HQ6⟩
        case measure => simp [intOf]; omega
      · have hli : ¬ ((k : Int) < (len : Int)) := by omega
        have hG := HG.out
        rw [List.take_of_length_le (by have := HL.out; omega)] at hG
        have HC : Hid (Came w wr u5 (Rc.chE n l) (Rc.chB n d l)) := ⟨HB1.out.trans (hG.2.mono HB1.out.size), fun _ => hG.1.mono HB1.out.size, fun h => absurd HE.out h⟩
        clear hG
        go_wp2
        go_ret2
        exact ⟨_, by rw [HE.out]; rfl, HC.out⟩
  · have heb : (Rc.chE n l != 0) = true := by simpa using he
    have HC : Hid (Came w w1 (.slice none 0 0) (Rc.chE n l) (Rc.chB n d l)) := ⟨HB1.out, fun h => absurd h he, fun _ => rfl⟩
    clear he
    go_wp2
    go_ret2
    exact ⟨_, rfl, HC.out⟩

end Go.Proofs.Ytlfgclmgpbaenaa
