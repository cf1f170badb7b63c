/- The bytes of a commit, of a chunk and of a master, or what is wrong with them, are the document's. -/
import Derived.Test.YtlfgclmgpbaenaaRcFill2
import Derived.Test.YtlfgclmgpbaenaaRcBytes
import Derived.Test.YtlfgclmgpbaenaaRcCom2
import Derived.Test.YtlfgclmgpbaenaaConvB
import Derived.Test.YtlfgclmgpbaenaaParses
import Derived.Test.YtlfgclmgpbaenaaRcOne
import Derived.Deep.RegionHeld3
import Derived.Test.YtlfgclmgpbaenaaRcCh
import Derived.Test.YtlfgclmgpbaenaaRcMs
import Derived.Test.YtlfgclmgpbaenaaRcM
import Derived.Deep.Slices
import Derived.Test.YtlfgclmgpbaenaaRcLive
namespace Go.Proofs.Ytlfgclmgpbaenaa
open Go.RowKit
set_option linter.unusedVariables false
set_option maxRecDepth 100000

/-- Bytes of the call's own since w0. -/
def Gt (w0 w : World) (v : Value) (xs : List Int) : Prop := Own w w0.heap.size v xs.length xs ∧ Below w0.heap.size w0 w

theorem Gt.nil (w : World) : Gt w w (.slice none 0 0) [] := ⟨World.ownsRow_nil _ _ _ _, Below.refl _ _⟩

theorem Gt.up {w0 w w' : World} {v : Value} {xs : List Int} (h : Gt w0 w v xs) (hb : Below w.heap.size w w') : Gt w0 w' v xs := ⟨h.1.below hb (Nat.le_refl _), h.2.trans (hb.mono h.2.size)⟩

set_option maxHeartbeats 1000000 in
theorem rnum_any {w0 w : World} {v : Value} {xs : List Int} (h : Gt w0 w v xs) (n : Int) (h0 : -9223372036854775808 ≤ n) (h1 : n ≤ 9223372036854775807) (hl : xs.length ≤ 1099511627776) :
    Calls Try.prog 50 #[v, .int .i64 n] w fun e w' => ∃ v', e = .returned v' ∧ Gt w0 w' v' (xs ++ Cd.enc n) := by
  have HG : Hid (Gt w0 w v xs) := h
  have hw := Cd.width_pos n
  clear h
  go_enter Try.func50, Try.ntmps50
  go_wp2_with fail
  refine (refInt_any n _ h0 h1).mono ?_
  rintro e w1 ⟨v1, rfl, ho1, hb1⟩
  obtain ⟨q, c, hv, -, hq, hby⟩ := ho1.bys
  subst hv
  have H1 : Hid (Gt w0 w1 v xs) := HG.out.up hb1
  have HQ : Hid (q = none → Cd.width n = 0 ∧ c = 0) := hq
  have HY : Hid (Bys w1 q (Cd.enc n)) := hby
  have HS : Hid (w0.heap.size ≤ w1.heap.size) := H1.out.2.size
  clear ho1 hb1 hq hby HG
  go_wp2_with (at_builtin; refine app8 w1 rfl _ _ rfl w0.heap.size v xs.length xs rfl H1.out.1 q (Cd.width n) c (Cd.enc n) rfl HY.out (Cd.enc_length n) HQ.out (by omega) HS.out ?_; intro v2 w2 ho2 hb2; refine Hid.out ?_)
  have HG2 : Hid (Gt w0 w2 v2 (xs ++ Cd.enc n)) := by
    refine ⟨?_, H1.out.2.trans hb2⟩
    rw [List.length_append, Cd.enc_length]
    exact ho2
  clear ho2 hb2
  unfold Hid
  go_wp2
  go_ret
  exact ⟨_, rfl, HG2.out⟩

set_option maxHeartbeats 1000000 in
theorem rflag_any {w0 w : World} {v : Value} {xs : List Int} (h : Gt w0 w v xs) (b : Bool) (hl : xs.length ≤ 1099511627776) :
    Calls Try.prog 51 #[v, .bool b] w fun e w' => ∃ v', e = .returned v' ∧ Gt w0 w' v' (xs ++ Rc.encF b) := by
  have HG : Hid (Gt w0 w v xs) := h
  have e0 : Rc.encF false = Cd.enc 0 := by decide
  have e1 : Rc.encF true = Cd.enc 1 := by decide
  have HE0 : Hid _ := e0
  have HE1 : Hid _ := e1
  clear h e0 e1
  cases b
  · go_enter Try.func51, Try.ntmps51
    go_wp2_with fail
    refine (rnum_any HG.out 0 (by omega) (by omega) hl).mono ?_
    rintro e w1 ⟨v1, rfl, h1⟩
    have H1 : Hid (Gt w0 w1 v1 (xs ++ Rc.encF false)) := by rw [HE0.out]; exact h1
    clear h1
    go_wp2
    go_ret
    exact ⟨_, rfl, H1.out⟩
  · go_enter Try.func51, Try.ntmps51
    go_wp2_with fail
    refine (rnum_any HG.out 1 (by omega) (by omega) hl).mono ?_
    rintro e w1 ⟨v1, rfl, h1⟩
    have H1 : Hid (Gt w0 w1 v1 (xs ++ Rc.encF true)) := by rw [HE1.out]; exact h1
    clear h1
    go_wp2
    go_ret
    exact ⟨_, rfl, H1.out⟩

set_option maxHeartbeats 1000000 in
theorem rtext_any {w0 w : World} {v : Value} {xs : List Int} (h : Gt w0 w v xs) (s : ByteArray) (hs : s.size ≤ 1099511627776) (hl : xs.length ≤ 1099511627776) :
    Calls Try.prog 52 #[v, .string s] w fun e w' => ∃ v', e = .returned v' ∧ Gt w0 w' v' (xs ++ Rc.encT s) := by
  have HG : Hid (Gt w0 w v xs) := h
  have hw := Cd.width_pos s.size
  obtain ⟨c0, w1, hr, hc0, hby1, hb1⟩ := conv_bytes w s
  have H1 : Hid (Gt w0 w1 v xs) := h.up hb1
  have HY1 : Hid (Bys w1 (some ⟨w.heap.size, 0, none⟩) (strB s)) := hby1
  have HSL : Hid ((strB s).length = s.size) := strB_length s
  clear h HG hby1 hb1
  go_enter Try.func52, Try.ntmps52
  go_wp2_with fail
  refine (refBytes_any (some ⟨w.heap.size, 0, none⟩) c0 s.size (strB s) _ HSL.out HY1.out (by omega) (fun h => by cases h)).mono ?_
  rintro e w2 ⟨v2, rfl, ho2, hb2⟩
  obtain ⟨q, c, hv, -, hq, hby⟩ := ho2.bys
  subst hv
  have H2 : Hid (Gt w0 w2 v xs) := H1.out.up hb2
  have HQ : Hid (q = none → Cd.width s.size + s.size = 0 ∧ c = 0) := hq
  have HY : Hid (Bys w2 q (Cd.enc s.size ++ strB s)) := hby
  have HS : Hid (w0.heap.size ≤ w2.heap.size) := H2.out.2.size
  have HL2 : Hid ((Cd.enc s.size ++ strB s).length = Cd.width s.size + s.size) := by simp [Hid, Cd.enc_length, strB_length]
  clear ho2 hb2 hq hby H1 HY1 hr
  go_wp2_with (at_builtin; refine app8 w2 rfl _ _ rfl w0.heap.size v xs.length xs rfl H2.out.1 q (Cd.width s.size + s.size) c (Cd.enc s.size ++ strB s) rfl HY.out HL2.out HQ.out (by omega) HS.out ?_; intro v3 w3 ho3 hb3; refine Hid.out ?_)
  have HG3 : Hid (Gt w0 w3 v3 (xs ++ Rc.encT s)) := by
    refine ⟨?_, H2.out.2.trans hb3⟩
    rw [List.length_append, Rc.encT_length]
    exact ho3
  clear ho3 hb3
  unfold Hid
  go_wp2
  go_ret
  exact ⟨_, rfl, HG3.out⟩

set_option maxHeartbeats 2000000 in
theorem writeForm_any (x : Wr) (w : World) (h1 : x.key.size ≤ 1099511627776) (h2 : x.val.size ≤ 274877906944) (h3 : x.key.size ≤ 274877906944) :
    Calls Try.prog 37 #[.agg x.cells.toArray] w fun e w' => ∃ v, e = .returned v ∧ Gt w w' v (Rc.wrB x) := by
  obtain ⟨k, v, d⟩ := x
  unfold Wr.cells
  simp only at h1 h2 h3
  have HK : Hid (Bk (w.alloc (.cells #[.string k, .string v, .bool d] 33)).drew w.heap.size 33 #[.string k, .string v, .bool d]) := Bk.new _ _ _
  have HG0 : Hid (Gt (w.alloc (.cells #[.string k, .string v, .bool d] 33)).drew (w.alloc (.cells #[.string k, .string v, .bool d] 33)).drew (.slice none 0 0) []) := Gt.nil _
  have HB0 : Hid (Below w.heap.size w (w.alloc (.cells #[.string k, .string v, .bool d] 33)).drew) := ((Below.refl _ _).alloc (Nat.le_refl _) _).drew
  have hek := Rc.encT_le k
  have HCC : Hid (∀ w', Below (w.alloc (.cells #[.string k, .string v, .bool d] 33)).drew.heap.size (w.alloc (.cells #[.string k, .string v, .bool d] 33)).drew w' → w'.cell? ⟨w.heap.size, 0, none⟩ = some (.string k) ∧ w'.cell? ⟨w.heap.size, 1, none⟩ = some (.string v) ∧ w'.cell? ⟨w.heap.size, 2, none⟩ = some (.bool d)) := by
    intro w' hb
    have := HK.out.below hb HK.out.lt
    exact ⟨this.cell 0, this.cell 1, this.cell 2⟩
  go_enter Try.func37, Try.ntmps37
  go_wp2_with fail
  go_region_held3 (fun w' => w'.cell? ⟨w.heap.size, 0, none⟩ = some (.string k) ∧ w'.cell? ⟨w.heap.size, 1, none⟩ = some (.string v) ∧ w'.cell? ⟨w.heap.size, 2, none⟩ = some (.bool d)) (go_keep) (first
    | (go_at_call_of 52 (Value.slice none 0 0); refine (rtext_any HG0.out k h1 (by simp)).mono ?_; rintro e w2 ⟨v2, rfl, hG2⟩; have hk2 := HCC.out w2 hG2.2)
    | (go_at_call 51; refine (rflag_any hG2 d (by simp; omega)).mono ?_; rintro e w3 ⟨v3, rfl, hG3⟩; have hk3 := HCC.out w3 hG3.2)
    | (go_at_call 52; refine (rtext_any hG3 v (by omega) (by simp [Rc.encF]; omega)).mono ?_; rintro e w4 ⟨v4, rfl, hG4⟩; have hk4 := HCC.out w4 hG4.2))
  have HG4 : Hid (Gt w w4 v4 (Rc.wrB ⟨k, v, d⟩)) := by
    have e4 : Rc.wrB ⟨k, v, d⟩ = [] ++ Rc.encT k ++ Rc.encF d ++ Rc.encT v := rfl
    rw [e4]
    exact ⟨hG4.1.mono HB0.out.size, HB0.out.trans (hG4.2.mono HB0.out.size)⟩
  clear hG2 hG3 hG4 hk2 hk3 hk4 HCC HG0 HK HB0
  go_wp2
  go_ret
  exact ⟨_, rfl, HG4.out⟩

end Go.Proofs.Ytlfgclmgpbaenaa

namespace Go.Proofs.Ytlfgclmgpbaenaa
open Go.RowKit
set_option linter.unusedVariables false
set_option maxRecDepth 100000

set_option maxHeartbeats 4000000 in
theorem rcommit_any (ts : Int) (p : Option Addr) (len cap : Nat) (l : List Wr) (w : World) (hin : InW w p len cap l) :
    Calls Try.prog 23 #[.agg #[.int .i64 ts, .slice p len cap]] w fun e w' => ∃ v, e = .returned (.tuple #[v, .int .i64 (Rc.comE ts l)]) ∧ Came w w' v (Rc.comE ts l) (Rc.comB ts l) := by
  have hb0 : Below w.heap.size w (w.alloc (.cells #[.int .i64 ts, .slice p len cap] 24)) := (Below.refl _ _).alloc (Nat.le_refl _) _
  have HK0 : Hid (Bk (w.alloc (.cells #[.int .i64 ts, .slice p len cap] 24)) w.heap.size 24 #[.int .i64 ts, .slice p len cap]) := Bk.new _ _ _
  have HB0 : Hid (Below w.heap.size w (w.alloc (.cells #[.int .i64 ts, .slice p len cap] 24))) := hb0
  have HI0 : Hid (InW (w.alloc (.cells #[.int .i64 ts, .slice p len cap] 24)) p len cap l) := hin.up hb0
  have hll := hin.lenq
  clear hin hb0
  go_enter Try.func23, Try.ntmps23
  go_wp2_with fail
  refine (rcheckCommit_any ts p len cap l _ HI0.out).mono ?_
  rintro e w1 ⟨rfl, hb1⟩
  have HK1 : Hid (Bk w1 w.heap.size 24 #[.int .i64 ts, .slice p len cap]) := HK0.out.below hb1 HK0.out.lt
  have HB1 : Hid (Below w.heap.size w w1) := HB0.out.trans (hb1.mono HB0.out.size)
  have HI1 : Hid (∀ w', Below w1.heap.size w1 w' → InW w' p len cap l) := fun w' hb => (HI0.out.up hb1).up hb
  have HKK : Hid (∀ w', Below w1.heap.size w1 w' → Bk w' w.heap.size 24 #[.int .i64 ts, .slice p len cap]) := fun w' hb => HK1.out.below hb HK1.out.lt
  clear hb1 HK0 HB0 HI0
  by_cases he : Rc.comE ts l = 0
  · have heb : (Rc.comE ts l != 0) = false := by simpa using he
    obtain ⟨⟨t0, t1⟩, hl64, -, hsz, -⟩ := Rc.comE_sizes he
    have HE : Hid (Rc.comE ts l = 0) := he
    have HZ : Hid (∀ g ∈ l, g.key.size ≤ 64 ∧ g.val.size ≤ 256) := hsz
    have HL : Hid (l.length = len) := hll
    have hlen : len ≤ 64 := by omega
    have ca0 : w1.cell? ⟨w.heap.size, 0, none⟩ = some (.int .i64 ts) := HK1.out.cell 0
    have ca1 : w1.cell? ⟨w.heap.size, 1, none⟩ = some (.slice p len cap) := HK1.out.cell 1
    have he1 := Rc.enc_le ts
    have he2 := Rc.enc_le len
    clear he hsz hll hl64
    go_wp2_with fail
    have hG0 : Gt w1 w1.drew (.slice none 0 0) [] := (Gt.nil w1).up ((Below.refl _ _).drew)
    have HG0 : Hid (Gt w1 w1.drew (.slice none 0 0) []) := hG0
    have HCC : Hid (∀ w', Below w1.heap.size w1 w' → w'.cell? ⟨w.heap.size, 0, none⟩ = some (.int .i64 ts) ∧ w'.cell? ⟨w.heap.size, 1, none⟩ = some (.slice p len cap)) := fun w' hb => ⟨(HKK.out w' hb).cell 0, (HKK.out w' hb).cell 1⟩
    clear hG0
    go_region_held3 (fun w' => w'.cell? ⟨w.heap.size, 0, none⟩ = some (.int .i64 ts) ∧ w'.cell? ⟨w.heap.size, 1, none⟩ = some (.slice p len cap)) (go_keep) (first
      | (go_at_call_of 50 (Value.slice none 0 0); refine (rnum_any HG0.out ts (by omega) (by omega) (by simp)).mono ?_; rintro e w2 ⟨v2, rfl, hG2⟩; have hk2 := HCC.out w2 hG2.2)
      | (go_at_call 50; refine (rnum_any hG2 len (by omega) (by omega) (by simp; omega)).mono ?_; rintro e w3 ⟨v3, rfl, hG3⟩; have hk3 := HCC.out w3 hG3.2))
    have HG3 : Hid (Gt w1 w3 v3 (Cd.enc ts ++ Cd.enc l.length ++ Rc.wsB (l.take 0))) := by
      rw [HL.out]
      simpa [Hid, Rc.wsB] using hG3
    clear hG2 hG3 hk2 hk3 HG0 ca0 ca1
    go_wp2_with fail
    go_loopw [5, 6] (fun b i wr => ∃ (k : Nat), k ≤ len ∧ i = .int .i64 k ∧ Hid (Gt w1 wr b (Cd.enc ts ++ Cd.enc l.length ++ Rc.wsB (l.take k))) ∧ Hid ((Rc.wsB (l.take k)).length ≤ 339 * k)) (fun _ i _ => len - (intOf i).toNat)
    case atStart => exact ⟨0, Nat.zero_le _, rfl, HG3, by simp [Hid, Rc.wsB]⟩
    case round =>
      obtain ⟨k, hk, rfl, HG, HQ⟩ := hrel
      clear HG3
      obtain ⟨-, d1⟩ := HCC.out wr HG.out.2
      by_cases hlt : k < len
      · have hli : (k : Int) < (len : Int) := by omega
        obtain ⟨b, o, g, rfl, hg, hblt, c0, c1, c2⟩ := (HI1.out wr HG.out.2).at hlt
        have hgz := HZ.out g (List.mem_of_getElem? hg)
        have HS : Hid (Rc.wsB (l.take (k + 1)) = Rc.wsB (l.take k) ++ Rc.wrB g) := Rc.wsB_snoc hg
        obtain ⟨X, hX⟩ : ∃ X, Cd.enc ts ++ Cd.enc (l.length : Int) ++ Rc.wsB (l.take k) = X := ⟨_, rfl⟩
        have HX : Hid (Cd.enc ts ++ Cd.enc (l.length : Int) ++ Rc.wsB (l.take k) = X) := hX
        rw [hX] at HG
        have hln : X.length ≤ 1000000 := by
          have := HQ.out
          rw [← hX]
          simp only [List.length_append]
          rw [HL.out]
          omega
        have hwl := Rc.wrB_le hgz.1 hgz.2
        clear hg hX
        go_wp2_with fail
        refine (writeForm_any g _ (by omega) (by omega) (by omega)).mono ?_
        rintro e w5 ⟨v5, rfl, h5⟩
        obtain ⟨q5, c5, hv5, -, hq5, hby5⟩ := h5.1.bys
        subst hv5
        have HG5 : Hid (Gt w1 w5 u5 X) := HG.out.up h5.2
        have HY5 : Hid (Bys w5 q5 (Rc.wrB g)) := hby5
        have HN5 : Hid (q5 = none → (Rc.wrB g).length = 0 ∧ c5 = 0) := hq5
        have HS5 : Hid (w1.heap.size ≤ w5.heap.size) := HG5.out.2.size
        clear h5 hq5 hby5 HG c0 c1 c2 d1
        go_wp2_with (at_builtin; refine app8 w5 rfl _ _ rfl w1.heap.size u5 X.length X rfl HG5.out.1 q5 (Rc.wrB g).length c5 (Rc.wrB g) rfl HY5.out rfl HN5.out (by omega) HS5.out ?_; intro v6 w6 ho6 hb6; refine Hid.out ?_)
        have HG6 : Hid (Gt w1 w6 v6 (Cd.enc ts ++ Cd.enc l.length ++ Rc.wsB (l.take (k + 1)))) := by
          rw [HS.out, ← List.append_assoc, HX.out]
          refine ⟨?_, HG5.out.2.trans hb6⟩
          rw [List.length_append]
          exact ho6
        have HQ6 : Hid ((Rc.wsB (l.take (k + 1))).length ≤ 339 * (k + 1)) := by
          have := HQ.out
          unfold Hid
          rw [HS.out, List.length_append]
          omega
        clear ho6 hb6 HG5 HY5 HN5
        unfold Hid
        go_wp2
        go_roundw
        case rel => exact ⟨k + 1, by omega, by go_num, HG6, HQ6⟩
        case measure => simp [intOf]; omega
      · have hli : ¬ ((k : Int) < (len : Int)) := by omega
        have hG := HG.out
        rw [List.take_of_length_le (by have := HL.out; omega)] at hG
        have HC : Hid (Came w wr u5 (Rc.comE ts l) (Rc.comB ts l)) := ⟨HB1.out.trans (hG.2.mono HB1.out.size), fun _ => hG.1.mono HB1.out.size, fun h => absurd HE.out h⟩
        clear hG
        go_wp2
        go_ret2
        exact ⟨_, by rw [HE.out]; rfl, HC.out⟩
  · have heb : (Rc.comE ts l != 0) = true := by simpa using he
    have HC : Hid (Came w w1 (.slice none 0 0) (Rc.comE ts l) (Rc.comB ts l)) := ⟨HB1.out, fun h => absurd h he, fun _ => rfl⟩
    clear he
    go_wp2
    go_ret2
    exact ⟨_, rfl, HC.out⟩

end Go.Proofs.Ytlfgclmgpbaenaa

namespace Go.Proofs.Ytlfgclmgpbaenaa
open Go.RowKit
set_option linter.unusedVariables false
set_option maxRecDepth 100000

set_option maxHeartbeats 4000000 in
theorem rchunk_any (n : Int) (d : Bool) (p : Option Addr) (len cap : Nat) (l : List St) (w : World) (hin : InS w p len cap l) :
    Calls Try.prog 25 #[.agg #[.int .i64 n, .slice p len cap, .bool d]] w fun e w' => ∃ v, e = .returned (.tuple #[v, .int .i64 (Rc.chE n l)]) ∧ Came w w' v (Rc.chE n l) (Rc.chB n d l) := by
  have hb0 : Below w.heap.size w (w.alloc (.cells #[.int .i64 n, .slice p len cap, .bool d] 27)) := (Below.refl _ _).alloc (Nat.le_refl _) _
  have HK0 : Hid (Bk (w.alloc (.cells #[.int .i64 n, .slice p len cap, .bool d] 27)) w.heap.size 27 #[.int .i64 n, .slice p len cap, .bool d]) := Bk.new _ _ _
  have HB0 : Hid (Below w.heap.size w (w.alloc (.cells #[.int .i64 n, .slice p len cap, .bool d] 27))) := hb0
  have HI0 : Hid (InS (w.alloc (.cells #[.int .i64 n, .slice p len cap, .bool d] 27)) p len cap l) := hin.up hb0
  have hll := hin.lenq
  have HTS : Hid (∀ g ∈ l, -9223372036854775808 ≤ g.ts ∧ g.ts ≤ 9223372036854775807) := hin.size
  clear hin hb0
  go_enter Try.func25, Try.ntmps25
  go_wp2_with fail
  refine (rcheckChunk_any n p len cap l d _ HI0.out).mono ?_
  rintro e w1 ⟨rfl, hb1⟩
  have HK1 : Hid (Bk w1 w.heap.size 27 #[.int .i64 n, .slice p len cap, .bool d]) := HK0.out.below hb1 HK0.out.lt
  have HB1 : Hid (Below w.heap.size w w1) := HB0.out.trans (hb1.mono HB0.out.size)
  have HI1 : Hid (∀ w', Below w1.heap.size w1 w' → InS w' p len cap l) := fun w' hb => (HI0.out.up hb1).up hb
  have HKK : Hid (∀ w', Below w1.heap.size w1 w' → Bk w' w.heap.size 27 #[.int .i64 n, .slice p len cap, .bool d]) := fun w' hb => HK1.out.below hb HK1.out.lt
  clear hb1 HK0 HB0 HI0
  by_cases he : Rc.chE n l = 0
  · have heb : (Rc.chE n l != 0) = false := by simpa using he
    obtain ⟨⟨t0, t1⟩, hl64, hsz, -⟩ := Rc.chE_sizes he
    have HE : Hid (Rc.chE n l = 0) := he
    have HZ : Hid (∀ g ∈ l, g.key.size ≤ 64 ∧ g.val.size ≤ 256) := hsz
    have HL : Hid (l.length = len) := hll
    have hlen : len ≤ 64 := by omega
    have ca0 : w1.cell? ⟨w.heap.size, 0, none⟩ = some (.int .i64 n) := HK1.out.cell 0
    have ca2 : w1.cell? ⟨w.heap.size, 2, none⟩ = some (.bool d) := HK1.out.cell 2
    have ca1 : w1.cell? ⟨w.heap.size, 1, none⟩ = some (.slice p len cap) := HK1.out.cell 1
    have he1 := Rc.enc_le n
    have he2 := Rc.enc_le len
    clear he hsz hll hl64
    go_wp2_with fail
    have hG0 : Gt w1 w1.drew (.slice none 0 0) [] := (Gt.nil w1).up ((Below.refl _ _).drew)
    have HG0 : Hid (Gt w1 w1.drew (.slice none 0 0) []) := hG0
    have HCC : Hid (∀ w', Below w1.heap.size w1 w' → w'.cell? ⟨w.heap.size, 0, none⟩ = some (.int .i64 n) ∧ w'.cell? ⟨w.heap.size, 1, none⟩ = some (.slice p len cap) ∧ w'.cell? ⟨w.heap.size, 2, none⟩ = some (.bool d)) := fun w' hb => ⟨(HKK.out w' hb).cell 0, (HKK.out w' hb).cell 1, (HKK.out w' hb).cell 2⟩
    clear hG0
    go_region_held3 (fun w' => w'.cell? ⟨w.heap.size, 0, none⟩ = some (.int .i64 n) ∧ w'.cell? ⟨w.heap.size, 1, none⟩ = some (.slice p len cap) ∧ w'.cell? ⟨w.heap.size, 2, none⟩ = some (.bool d)) (go_keep) (first
      | (go_at_call_of 50 (Value.slice none 0 0); refine (rnum_any HG0.out n (by omega) (by omega) (by simp)).mono ?_; rintro e w2 ⟨v2, rfl, hG2⟩; have hk2 := HCC.out w2 hG2.2)
      | (go_at_call 51; refine (rflag_any hG2 d (by simp; omega)).mono ?_; rintro e w2b ⟨v2b, rfl, hG2b⟩; have hk2b := HCC.out w2b hG2b.2)
      | (go_at_call 50; refine (rnum_any hG2b len (by omega) (by omega) (by simp [Rc.encF]; omega)).mono ?_; rintro e w3 ⟨v3, rfl, hG3⟩; have hk3 := HCC.out w3 hG3.2))
    have HG3 : Hid (Gt w1 w3 v3 (Cd.enc n ++ Rc.encF d ++ Cd.enc l.length ++ Rc.stsB (l.take 0))) := by
      rw [HL.out]
      simpa [Hid, Rc.stsB] using hG3
    clear hG2b hk2b ca2
    clear hG2 hG3 hk2 hk3 HG0 ca0 ca1
    go_wp2_with fail
    go_loopw [5, 6] (fun b i wr => ∃ (k : Nat), k ≤ len ∧ i = .int .i64 k ∧ Hid (Gt w1 wr b (Cd.enc n ++ Rc.encF d ++ Cd.enc l.length ++ Rc.stsB (l.take k))) ∧ Hid ((Rc.stsB (l.take k)).length ≤ 347 * k)) (fun _ i _ => len - (intOf i).toNat)
    case atStart => exact ⟨0, Nat.zero_le _, rfl, HG3, by simp [Hid, Rc.stsB]⟩
    case round =>
      obtain ⟨k, hk, rfl, HG, HQ⟩ := hrel
      clear HG3
      obtain ⟨-, d1, -⟩ := HCC.out wr HG.out.2
      by_cases hlt : k < len
      · have hli : (k : Int) < (len : Int) := by omega
        obtain ⟨b, o, g, rfl, hg, hblt, c0, c1, c2⟩ := (HI1.out wr HG.out.2).at hlt
        have hgz := HZ.out g (List.mem_of_getElem? hg)
        have HS : Hid (Rc.stsB (l.take (k + 1)) = Rc.stsB (l.take k) ++ Rc.stB g) := Rc.stsB_snoc hg
        obtain ⟨X, hX⟩ : ∃ X, Cd.enc n ++ Rc.encF d ++ Cd.enc (l.length : Int) ++ Rc.stsB (l.take k) = X := ⟨_, rfl⟩
        have HX : Hid (Cd.enc n ++ Rc.encF d ++ Cd.enc (l.length : Int) ++ Rc.stsB (l.take k) = X) := hX
        rw [hX] at HG
        have hln : X.length ≤ 1000000 := by
          have := HQ.out
          rw [← hX]
          simp only [List.length_append, Rc.encF, List.length_singleton]
          rw [HL.out]
          omega
        have hwl := Rc.stB_le hgz.1 hgz.2
        have hgt := HTS.out g (List.mem_of_getElem? hg)
        have ek := Rc.encT_le g.key
        have ev := Rc.encT_le g.val
        have HLO : Hid (∀ w', Below w1.heap.size w1 w' → w'.cell? ⟨w.heap.size, 1, none⟩ = some (.slice (some ⟨b, o, none⟩) len cap) ∧ w'.cell? ⟨b, o + k * 3, none⟩ = some (.string g.key) ∧ w'.cell? ⟨b, o + k * 3 + 1, none⟩ = some (.string g.val) ∧ w'.cell? ⟨b, o + k * 3 + 2, none⟩ = some (.int .i64 g.ts)) := by
          intro w' hbw
          obtain ⟨-, z1, -⟩ := HCC.out w' hbw
          obtain ⟨b', o', g', hp', hg', -, z2, z3, z4⟩ := (HI1.out w' hbw).at hlt
          cases hp'
          rw [hg] at hg'
          cases hg'
          exact ⟨z1, z2, z3, z4⟩
        have HGd : Hid (Gt w1 wr.drew u5 X) := HG.out.up ((Below.refl _ _).drew)
        have hd1 : decide ((len : Int) ≤ (k : Int)) = false := by simp; omega
        have hd3 : decide (len ≤ k) = false := by simp; omega
        have hd5 : k < len := hlt
        clear hg hX HG
        go_wp2_with fail
        go_region_held3 (fun w' => w'.cell? ⟨w.heap.size, 1, none⟩ = some (.slice (some ⟨b, o, none⟩) len cap) ∧ w'.cell? ⟨b, o + k * 3, none⟩ = some (.string g.key) ∧ w'.cell? ⟨b, o + k * 3 + 1, none⟩ = some (.string g.val) ∧ w'.cell? ⟨b, o + k * 3 + 2, none⟩ = some (.int .i64 g.ts)) (go_keep) (first
          | (go_at_call_of 52 u5; refine (rtext_any HGd.out g.key (by omega) (by omega)).mono ?_; rintro e w5 ⟨v5, rfl, hG5⟩; have hk5 := HLO.out w5 hG5.2)
          | (go_at_call 52; refine (rtext_any hG5 g.val (by omega) (by simp; omega)).mono ?_; rintro e w6 ⟨v6, rfl, hG6⟩; have hk6 := HLO.out w6 hG6.2)
          | (go_at_call 50; refine (rnum_any hG6 g.ts hgt.1 hgt.2 (by simp; omega)).mono ?_; rintro e w7 ⟨v7, rfl, hG7⟩; have hk7 := HLO.out w7 hG7.2))
        have HG6 : Hid (Gt w1 w7 v7 (Cd.enc n ++ Rc.encF d ++ Cd.enc l.length ++ Rc.stsB (l.take (k + 1)))) := by
          have e6 : Cd.enc n ++ Rc.encF d ++ Cd.enc (l.length : Int) ++ Rc.stsB (l.take (k + 1)) = X ++ Rc.encT g.key ++ Rc.encT g.val ++ Cd.enc g.ts := by
            rw [HS.out, ← List.append_assoc, HX.out, Rc.stB]
            simp only [List.append_assoc]
          rw [e6]
          exact hG7
        have HQ6 : Hid ((Rc.stsB (l.take (k + 1))).length ≤ 347 * (k + 1)) := by
          have := HQ.out
          unfold Hid
          rw [HS.out, List.length_append]
          omega
        clear hG5 hG6 hG7 hk5 hk6 hk7 HLO HGd d1 c0 c1 c2
        go_wp2
        go_roundw
        case rel => exact ⟨k + 1, by omega, by go_num, HG6, HQ6⟩
        case measure => simp [intOf]; omega
      · have hli : ¬ ((k : Int) < (len : Int)) := by omega
        have hG := HG.out
        rw [List.take_of_length_le (by have := HL.out; omega)] at hG
        have HC : Hid (Came w wr u5 (Rc.chE n l) (Rc.chB n d l)) := ⟨HB1.out.trans (hG.2.mono HB1.out.size), fun _ => hG.1.mono HB1.out.size, fun h => absurd HE.out h⟩
        clear hG
        go_wp2
        go_ret2
        exact ⟨_, by rw [HE.out]; rfl, HC.out⟩
  · have heb : (Rc.chE n l != 0) = true := by simpa using he
    have HC : Hid (Came w w1 (.slice none 0 0) (Rc.chE n l) (Rc.chB n d l)) := ⟨HB1.out, fun h => absurd h he, fun _ => rfl⟩
    clear he
    go_wp2
    go_ret2
    exact ⟨_, rfl, HC.out⟩

end Go.Proofs.Ytlfgclmgpbaenaa

namespace Go.Proofs.Ytlfgclmgpbaenaa
open Go.RowKit
set_option linter.unusedVariables false
set_option maxRecDepth 100000

set_option maxHeartbeats 4000000 in
theorem rmaster_any (m : Ms) (w : World) :
    Calls Try.prog 27 #[.agg m.cells.toArray] w fun e w' => ∃ v, e = .returned (.tuple #[v, .int .i64 (Rc.msE m)]) ∧ Came w w' v (Rc.msE m) (Rc.msB m) := by
  unfold Ms.cells
  have HK0 : Hid (Bk (w.alloc (.cells #[.int .i64 m.seq, .int .i64 m.area, .int .i64 m.chunks, .int .i64 m.ts, .int .i64 m.sector, .int .i64 m.offset, .int .i64 m.number, .int .i64 m.run] 31)) w.heap.size 31 #[.int .i64 m.seq, .int .i64 m.area, .int .i64 m.chunks, .int .i64 m.ts, .int .i64 m.sector, .int .i64 m.offset, .int .i64 m.number, .int .i64 m.run]) := Bk.new _ _ _
  have HB0 : Hid (Below w.heap.size w (w.alloc (.cells #[.int .i64 m.seq, .int .i64 m.area, .int .i64 m.chunks, .int .i64 m.ts, .int .i64 m.sector, .int .i64 m.offset, .int .i64 m.number, .int .i64 m.run] 31))) := (Below.refl _ _).alloc (Nat.le_refl _) _
  go_enter Try.func27, Try.ntmps27
  go_wp2_with fail
  refine (rcheckMaster_any m _).mono ?_
  rintro e w1 ⟨rfl, hb1⟩
  have HK1 : Hid (Bk w1 w.heap.size 31 #[.int .i64 m.seq, .int .i64 m.area, .int .i64 m.chunks, .int .i64 m.ts, .int .i64 m.sector, .int .i64 m.offset, .int .i64 m.number, .int .i64 m.run]) := HK0.out.below hb1 HK0.out.lt
  have HB1 : Hid (Below w.heap.size w w1) := HB0.out.trans (hb1.mono HB0.out.size)
  have HCC : Hid (∀ w', Below w1.heap.size w1 w' → w'.cell? ⟨w.heap.size, 0, none⟩ = some (.int .i64 m.seq) ∧ w'.cell? ⟨w.heap.size, 1, none⟩ = some (.int .i64 m.area) ∧ w'.cell? ⟨w.heap.size, 2, none⟩ = some (.int .i64 m.chunks) ∧ w'.cell? ⟨w.heap.size, 3, none⟩ = some (.int .i64 m.ts) ∧ w'.cell? ⟨w.heap.size, 4, none⟩ = some (.int .i64 m.sector) ∧ w'.cell? ⟨w.heap.size, 5, none⟩ = some (.int .i64 m.offset) ∧ w'.cell? ⟨w.heap.size, 6, none⟩ = some (.int .i64 m.number) ∧ w'.cell? ⟨w.heap.size, 7, none⟩ = some (.int .i64 m.run)) := by
    intro w' hb
    have b := HK1.out.below hb HK1.out.lt
    exact ⟨b.cell 0, b.cell 1, b.cell 2, b.cell 3, b.cell 4, b.cell 5, b.cell 6, b.cell 7⟩
  clear hb1 HK0 HB0
  by_cases he : Rc.msE m = 0
  · have heb : (Rc.msE m != 0) = false := by simpa using he
    obtain ⟨⟨a0, b0⟩, ⟨a1, b1⟩, ⟨a2, b2⟩, ⟨a3, b3⟩, ⟨a4, b4⟩, ⟨a5, b5⟩, ⟨a6, b6⟩, ⟨a7, b7⟩⟩ := Rc.msE_fits he
    have HE : Hid (Rc.msE m = 0) := he
    obtain ⟨k0, k1, k2, k3, k4, k5, k6, k7⟩ := HCC.out w1 (Below.refl _ _)
    have e0 := Rc.enc_le m.seq
    have e1 := Rc.enc_le m.area
    have e2 := Rc.enc_le m.chunks
    have e3 := Rc.enc_le m.ts
    have e4 := Rc.enc_le m.sector
    have e5 := Rc.enc_le m.offset
    have e6 := Rc.enc_le m.number
    have e7 := Rc.enc_le m.run
    clear he
    go_wp2_with fail
    have HG0 : Hid (Gt w1 w1.drew (.slice none 0 0) []) := (Gt.nil w1).up ((Below.refl _ _).drew)
    go_region_held3 (fun w' => w'.cell? ⟨w.heap.size, 0, none⟩ = some (.int .i64 m.seq) ∧ w'.cell? ⟨w.heap.size, 1, none⟩ = some (.int .i64 m.area) ∧ w'.cell? ⟨w.heap.size, 2, none⟩ = some (.int .i64 m.chunks) ∧ w'.cell? ⟨w.heap.size, 3, none⟩ = some (.int .i64 m.ts) ∧ w'.cell? ⟨w.heap.size, 4, none⟩ = some (.int .i64 m.sector) ∧ w'.cell? ⟨w.heap.size, 5, none⟩ = some (.int .i64 m.offset) ∧ w'.cell? ⟨w.heap.size, 6, none⟩ = some (.int .i64 m.number) ∧ w'.cell? ⟨w.heap.size, 7, none⟩ = some (.int .i64 m.run)) (go_keep) (first
      | (go_at_call_of 50 (Value.int IntKind.i64 m.seq); refine (rnum_any HG0.out m.seq a0 b0 (by simp; try omega)).mono ?_; rintro e w2 ⟨v2, rfl, hG2⟩; have hk2 := HCC.out w2 hG2.2)
      | (go_at_call_of 50 (Value.int IntKind.i64 m.area); refine (rnum_any hG2 m.area a1 b1 (by simp; try omega)).mono ?_; rintro e w3 ⟨v3, rfl, hG3⟩; have hk3 := HCC.out w3 hG3.2)
      | (go_at_call_of 50 (Value.int IntKind.i64 m.chunks); refine (rnum_any hG3 m.chunks a2 b2 (by simp; try omega)).mono ?_; rintro e w4 ⟨v4, rfl, hG4⟩; have hk4 := HCC.out w4 hG4.2)
      | (go_at_call_of 50 (Value.int IntKind.i64 m.ts); refine (rnum_any hG4 m.ts a3 b3 (by simp; try omega)).mono ?_; rintro e w5 ⟨v5, rfl, hG5⟩; have hk5 := HCC.out w5 hG5.2))
    have HG5 : Hid (Gt w1 w5 v5 ([] ++ Cd.enc m.seq ++ Cd.enc m.area ++ Cd.enc m.chunks ++ Cd.enc m.ts)) := hG5
    clear hG2 hG3 hG4 hG5 hk2 hk3 hk4 hk5 k0 k1 k2 k3 k4 k5 k6 k7 HG0
    obtain ⟨k0, k1, k2, k3, k4, k5, k6, k7⟩ := HCC.out w5 HG5.out.2
    have HG5d : Hid (Gt w1 w5.drew v5 ([] ++ Cd.enc m.seq ++ Cd.enc m.area ++ Cd.enc m.chunks ++ Cd.enc m.ts)) := HG5.out.up ((Below.refl _ _).drew)
    go_wp2_with fail
    go_region_held3 (fun w' => w'.cell? ⟨w.heap.size, 0, none⟩ = some (.int .i64 m.seq) ∧ w'.cell? ⟨w.heap.size, 1, none⟩ = some (.int .i64 m.area) ∧ w'.cell? ⟨w.heap.size, 2, none⟩ = some (.int .i64 m.chunks) ∧ w'.cell? ⟨w.heap.size, 3, none⟩ = some (.int .i64 m.ts) ∧ w'.cell? ⟨w.heap.size, 4, none⟩ = some (.int .i64 m.sector) ∧ w'.cell? ⟨w.heap.size, 5, none⟩ = some (.int .i64 m.offset) ∧ w'.cell? ⟨w.heap.size, 6, none⟩ = some (.int .i64 m.number) ∧ w'.cell? ⟨w.heap.size, 7, none⟩ = some (.int .i64 m.run)) (go_keep) (first
      | (go_at_call_of 50 (Value.int IntKind.i64 m.sector); refine (rnum_any HG5d.out m.sector a4 b4 (by simp; try omega)).mono ?_; rintro e w6 ⟨v6, rfl, hG6⟩; have hk6 := HCC.out w6 hG6.2)
      | (go_at_call_of 50 (Value.int IntKind.i64 m.offset); refine (rnum_any hG6 m.offset a5 b5 (by simp; try omega)).mono ?_; rintro e w7 ⟨v7, rfl, hG7⟩; have hk7 := HCC.out w7 hG7.2)
      | (go_at_call_of 50 (Value.int IntKind.i64 m.number); refine (rnum_any hG7 m.number a6 b6 (by simp; try omega)).mono ?_; rintro e w8 ⟨v8, rfl, hG8⟩; have hk8 := HCC.out w8 hG8.2)
      | (go_at_call_of 50 (Value.int IntKind.i64 m.run); refine (rnum_any hG8 m.run a7 b7 (by simp; try omega)).mono ?_; rintro e w9 ⟨v9, rfl, hG9⟩; have hk9 := HCC.out w9 hG9.2))
    have HC : Hid (Came w w9 v9 (Rc.msE m) (Rc.msB m)) := by
      have hG := hG9
      rw [show [] ++ Cd.enc m.seq ++ Cd.enc m.area ++ Cd.enc m.chunks ++ Cd.enc m.ts ++ Cd.enc m.sector ++ Cd.enc m.offset ++ Cd.enc m.number ++ Cd.enc m.run = Rc.msB m from rfl] at hG
      exact ⟨HB1.out.trans (hG.2.mono HB1.out.size), fun _ => hG.1.mono HB1.out.size, fun h => absurd HE.out h⟩
    clear hG6 hG7 hG8 hG9 hk6 hk7 hk8 hk9 k0 k1 k2 k3 k4 k5 k6 k7 HG5 HG5d
    go_wp2
    go_ret2
    exact ⟨_, by rw [HE.out]; rfl, HC.out⟩
  · have heb : (Rc.msE m != 0) = true := by simpa using he
    have HC : Hid (Came w w1 (.slice none 0 0) (Rc.msE m) (Rc.msB m)) := ⟨HB1.out, fun h => absurd h he, fun _ => rfl⟩
    clear he
    go_wp2
    go_ret2
    exact ⟨_, rfl, HC.out⟩

end Go.Proofs.Ytlfgclmgpbaenaa

namespace Go.Proofs.Ytlfgclmgpbaenaa
open Go.ChangeShapes Go.WideShapes Go.ChangeAt Go.RowKit
set_option linter.unusedVariables false
set_option maxRecDepth 100000

theorem list2 {α : Type} {l : List α} (h : l.length = 2) : ∃ a b, l = [a, b] := by
  match l, h with
  | [a, b], _ => exact ⟨a, b, rfl⟩
theorem list3 {α : Type} {l : List α} (h : l.length = 3) : ∃ a b c, l = [a, b, c] := by
  match l, h with
  | [a, b, c], _ => exact ⟨a, b, c, rfl⟩
theorem list4 {α : Type} {l : List α} (h : l.length = 4) : ∃ a b c d, l = [a, b, c, d] := by
  match l, h with
  | [a, b, c, d], _ => exact ⟨a, b, c, d, rfl⟩
theorem list5 {α : Type} {l : List α} (h : l.length = 5) : ∃ a b c d e, l = [a, b, c, d, e] := by
  match l, h with
  | [a, b, c, d, e], _ => exact ⟨a, b, c, d, e, rfl⟩
theorem list8 {α : Type} {l : List α} (h : l.length = 8) : ∃ a b c d e f g i, l = [a, b, c, d, e, f, g, i] := by
  match l, h with
  | [a, b, c, d, e, f, g, i], _ => exact ⟨a, b, c, d, e, f, g, i, rfl⟩

theorem rcells_at {W : World} {a : Addr} {n : Nat} {cs : List Value} (h : W.cells? 0 a n = some cs) : ∀ j v, cs[j]? = some v → W.cell? (a.add j) = some v := by
  obtain ⟨_, hl, hc⟩ := World.cells?_some h
  intro j v hv
  have hj : j < n := by
    have := (List.getElem?_eq_some_iff.1 hv).1
    omega
  exact (hc j hj).trans hv

section
variable {H : Type} {enc : TypeId × Value → H} {W : World} {fuel : Nat} {cs : List Value} {x : DataW H × List MemPlace}

theorem in_wr (hf : DataW.trod enc Try.prog W 0 (fun _ => true) true fuel 33 cs = some x) : ∃ g : Wr, cs = g.cells := by
  obtain ⟨ys, n, -, rfl, hlen, hys, hall⟩ := DataW.trod_struct Try.underlying33 hf
  have eT : Try.prog.cellsOf 33 = 3 := by kernel_rfl
  rw [eT] at hlen
  obtain ⟨c0, c1, c2, rfl⟩ := list3 hlen
  obtain ⟨y0, y1, y2, rfl⟩ := list3 (l := ys) hys
  have h0 : DataW.trod enc Try.prog W 0 (fun _ => true) true n 9 [c0] = some y0 := by
    have h : DataW.trod enc Try.prog W 0 (fun _ => true) true n 9 (List.take (Try.prog.cellsOf 9) (List.drop 0 [c0, c1, c2])) = some y0 := hall 0 _ rfl
    rw [show Try.prog.cellsOf 9 = 1 by kernel_rfl] at h
    exact h
  have h1 : DataW.trod enc Try.prog W 0 (fun _ => true) true n 9 [c1] = some y1 := by
    have h : DataW.trod enc Try.prog W 0 (fun _ => true) true n 9 (List.take (Try.prog.cellsOf 9) (List.drop 1 [c0, c1, c2])) = some y1 := hall 1 _ rfl
    rw [show Try.prog.cellsOf 9 = 1 by kernel_rfl] at h
    exact h
  have h2 : DataW.trod enc Try.prog W 0 (fun _ => true) true n 4 [c2] = some y2 := by
    have h : DataW.trod enc Try.prog W 0 (fun _ => true) true n 4 (List.take (Try.prog.cellsOf 4) (List.drop 2 [c0, c1, c2])) = some y2 := hall 2 _ rfl
    rw [show Try.prog.cellsOf 4 = 1 by kernel_rfl] at h
    exact h
  obtain ⟨v0, q0, _, _⟩ := DataW.trod_string Try.underlying9 h0
  obtain ⟨v1, q1, _, _⟩ := DataW.trod_string Try.underlying9 h1
  obtain ⟨v2, q2, _⟩ := DataW.trod_bool Try.underlying4 h2
  simp only [List.cons.injEq, and_true] at q0 q1 q2
  subst q0 q1 q2
  exact ⟨⟨v0, v1, v2⟩, rfl⟩

theorem in_st (hf : DataW.trod enc Try.prog W 0 (fun _ => true) true fuel 70 cs = some x) : ∃ g : St, cs = g.cells ∧ -9223372036854775808 ≤ g.ts ∧ g.ts ≤ 9223372036854775807 := by
  obtain ⟨ys, n, -, rfl, hlen, hys, hall⟩ := DataW.trod_struct Try.underlying70 hf
  have eT : Try.prog.cellsOf 70 = 3 := by kernel_rfl
  rw [eT] at hlen
  obtain ⟨c0, c1, c2, rfl⟩ := list3 hlen
  obtain ⟨y0, y1, y2, rfl⟩ := list3 (l := ys) hys
  have h0 : DataW.trod enc Try.prog W 0 (fun _ => true) true n 9 [c0] = some y0 := by
    have h : DataW.trod enc Try.prog W 0 (fun _ => true) true n 9 (List.take (Try.prog.cellsOf 9) (List.drop 0 [c0, c1, c2])) = some y0 := hall 0 _ rfl
    rw [show Try.prog.cellsOf 9 = 1 by kernel_rfl] at h
    exact h
  have h1 : DataW.trod enc Try.prog W 0 (fun _ => true) true n 9 [c1] = some y1 := by
    have h : DataW.trod enc Try.prog W 0 (fun _ => true) true n 9 (List.take (Try.prog.cellsOf 9) (List.drop 1 [c0, c1, c2])) = some y1 := hall 1 _ rfl
    rw [show Try.prog.cellsOf 9 = 1 by kernel_rfl] at h
    exact h
  have h2 : DataW.trod enc Try.prog W 0 (fun _ => true) true n 2 [c2] = some y2 := by
    have h : DataW.trod enc Try.prog W 0 (fun _ => true) true n 2 (List.take (Try.prog.cellsOf 2) (List.drop 2 [c0, c1, c2])) = some y2 := hall 2 _ rfl
    rw [show Try.prog.cellsOf 2 = 1 by kernel_rfl] at h
    exact h
  obtain ⟨v0, q0, _, _⟩ := DataW.trod_string Try.underlying9 h0
  obtain ⟨v1, q1, _, _⟩ := DataW.trod_string Try.underlying9 h1
  obtain ⟨v2, q2, _, w2⟩ := DataW.trod_int Try.underlying2 h2
  simp only [List.cons.injEq, and_true] at q0 q1 q2
  subst q0 q1 q2
  have := bounds_i64 w2
  exact ⟨⟨v0, v1, v2⟩, rfl, by show -9223372036854775808 ≤ v2; omega, by show v2 ≤ 9223372036854775807; omega⟩

theorem in_writes (hf : DataW.trod enc Try.prog W 0 (fun _ => true) true fuel 22 cs = some x) : ∃ a len cap l, cs = [.slice a len cap] ∧ InW W a len cap l := by
  have e3 : Try.prog.cellsOf 33 = 3 := by kernel_rfl
  rcases Go.Deep.open_slice Try.underlying22 hf with ⟨hcs, _⟩ | ⟨x, l, c, m, n, D, Pl, hcs, _, hl, hm, hmm, hx, hall⟩
  · exact ⟨none, 0, 0, [], hcs, rfl, (fun h => absurd h (Nat.lt_irrefl 0)), Nat.le_refl _, by omega, (fun _ => ⟨rfl, rfl⟩)⟩
  · simp only [if_true] at hmm
    subst hmm
    rw [e3] at hall
    haveI : Inhabited Wr := ⟨⟨.empty, .empty, false⟩⟩
    obtain ⟨F, hF⟩ := Go.Deep.choose_lt (n := l) (α := Wr) (p := fun i g => W.cells? 0 (x.add (i * 3)) 3 = some g.cells) (fun i hi => by
      obtain ⟨cs, h1, h2⟩ := hall i (by omega)
      obtain ⟨g, rfl⟩ := in_wr h2
      exact ⟨g, h1⟩)
    refine ⟨some x, l, m, (List.range l).map F, hcs, by simp, fun hpos => ?_, hl, by unfold maxLen at hm; omega, (fun h => by cases h)⟩
    · have h0 := rcells_at (hF 0 hpos) 0 _ rfl
      obtain ⟨b, off, spot⟩ := x
      have hspot : spot = none := by
        have := World.cell?_spot h0
        simpa [Addr.add] using this
      subst hspot
      refine ⟨b, off, rfl, fun i g hi j v hv => ?_⟩
      have hil : i < l := by
        have := (List.getElem?_eq_some_iff.1 hi).1
        simpa using this
      have hg : g = F i := by simpa [hil] using hi.symm
      subst hg
      have := rcells_at (hF i hil) j v hv
      rw [Addr.add_lit, Addr.add_lit] at this
      exact this

theorem in_stampeds (hf : DataW.trod enc Try.prog W 0 (fun _ => true) true fuel 25 cs = some x) : ∃ a len cap l, cs = [.slice a len cap] ∧ InS W a len cap l := by
  have e3 : Try.prog.cellsOf 70 = 3 := by kernel_rfl
  rcases Go.Deep.open_slice Try.underlying25 hf with ⟨hcs, _⟩ | ⟨x, l, c, m, n, D, Pl, hcs, _, hl, hm, hmm, hx, hall⟩
  · exact ⟨none, 0, 0, [], hcs, rfl, (fun h => absurd h (Nat.lt_irrefl 0)), Nat.le_refl _, by omega, (fun _ => ⟨rfl, rfl⟩), by simp⟩
  · simp only [if_true] at hmm
    subst hmm
    rw [e3] at hall
    haveI : Inhabited St := ⟨⟨.empty, .empty, 0⟩⟩
    obtain ⟨F, hF⟩ := Go.Deep.choose_lt (n := l) (α := St) (p := fun i g => W.cells? 0 (x.add (i * 3)) 3 = some g.cells ∧ -9223372036854775808 ≤ g.ts ∧ g.ts ≤ 9223372036854775807) (fun i hi => by
      obtain ⟨cs, h1, h2⟩ := hall i (by omega)
      obtain ⟨g, rfl, h3⟩ := in_st h2
      exact ⟨g, h1, h3⟩)
    refine ⟨some x, l, m, (List.range l).map F, hcs, by simp, fun hpos => ?_, hl, by unfold maxLen at hm; omega, (fun h => by cases h), ?_⟩
    · have h0 := rcells_at (hF 0 hpos).1 0 _ rfl
      obtain ⟨b, off, spot⟩ := x
      have hspot : spot = none := by
        have := World.cell?_spot h0
        simpa [Addr.add] using this
      subst hspot
      refine ⟨b, off, rfl, fun i g hi j v hv => ?_⟩
      have hil : i < l := by
        have := (List.getElem?_eq_some_iff.1 hi).1
        simpa using this
      have hg : g = F i := by simpa [hil] using hi.symm
      subst hg
      have := rcells_at (hF i hil).1 j v hv
      rw [Addr.add_lit, Addr.add_lit] at this
      exact this
    · intro g hg
      obtain ⟨i, hi, rfl⟩ := List.mem_map.1 hg
      exact (hF i (List.mem_range.1 hi)).2

theorem in_commit (hf : DataW.trod enc Try.prog W 0 (fun _ => true) true fuel 24 cs = some x) : ∃ ts a len cap l, cs = [.int .i64 ts, .slice a len cap] ∧ (-9223372036854775808 ≤ ts ∧ ts ≤ 9223372036854775807) ∧ InW W a len cap l := by
  obtain ⟨ys, n, -, rfl, hlen, hys, hall⟩ := DataW.trod_struct Try.underlying24 hf
  have eT : Try.prog.cellsOf 24 = 2 := by kernel_rfl
  rw [eT] at hlen
  obtain ⟨c0, c1, rfl⟩ := list2 hlen
  obtain ⟨y0, y1, rfl⟩ := list2 (l := ys) hys
  have h0 : DataW.trod enc Try.prog W 0 (fun _ => true) true n 2 [c0] = some y0 := by
    have h : DataW.trod enc Try.prog W 0 (fun _ => true) true n 2 (List.take (Try.prog.cellsOf 2) (List.drop 0 [c0, c1])) = some y0 := hall 0 _ rfl
    rw [show Try.prog.cellsOf 2 = 1 by kernel_rfl] at h
    exact h
  have h1 : DataW.trod enc Try.prog W 0 (fun _ => true) true n 22 [c1] = some y1 := by
    have h : DataW.trod enc Try.prog W 0 (fun _ => true) true n 22 (List.take (Try.prog.cellsOf 22) (List.drop 1 [c0, c1])) = some y1 := hall 1 _ rfl
    rw [show Try.prog.cellsOf 22 = 1 by kernel_rfl] at h
    exact h
  obtain ⟨v0, q0, _, w0⟩ := DataW.trod_int Try.underlying2 h0
  obtain ⟨a, len, cap, l, q1, hw⟩ := in_writes h1
  simp only [List.cons.injEq, and_true] at q0 q1
  subst q0 q1
  have := bounds_i64 w0
  exact ⟨v0, a, len, cap, l, rfl, by omega, hw⟩

theorem in_chunk (hf : DataW.trod enc Try.prog W 0 (fun _ => true) true fuel 27 cs = some x) : ∃ n a len cap l d, cs = [.int .i64 n, .slice a len cap, .bool d] ∧ (-9223372036854775808 ≤ n ∧ n ≤ 9223372036854775807) ∧ InS W a len cap l := by
  obtain ⟨ys, n, -, rfl, hlen, hys, hall⟩ := DataW.trod_struct Try.underlying27 hf
  have eT : Try.prog.cellsOf 27 = 3 := by kernel_rfl
  rw [eT] at hlen
  obtain ⟨c0, c1, c2, rfl⟩ := list3 hlen
  obtain ⟨y0, y1, y2, rfl⟩ := list3 (l := ys) hys
  have h0 : DataW.trod enc Try.prog W 0 (fun _ => true) true n 3 [c0] = some y0 := by
    have h : DataW.trod enc Try.prog W 0 (fun _ => true) true n 3 (List.take (Try.prog.cellsOf 3) (List.drop 0 [c0, c1, c2])) = some y0 := hall 0 _ rfl
    rw [show Try.prog.cellsOf 3 = 1 by kernel_rfl] at h
    exact h
  have h1 : DataW.trod enc Try.prog W 0 (fun _ => true) true n 25 [c1] = some y1 := by
    have h : DataW.trod enc Try.prog W 0 (fun _ => true) true n 25 (List.take (Try.prog.cellsOf 25) (List.drop 1 [c0, c1, c2])) = some y1 := hall 1 _ rfl
    rw [show Try.prog.cellsOf 25 = 1 by kernel_rfl] at h
    exact h
  have h2 : DataW.trod enc Try.prog W 0 (fun _ => true) true n 4 [c2] = some y2 := by
    have h : DataW.trod enc Try.prog W 0 (fun _ => true) true n 4 (List.take (Try.prog.cellsOf 4) (List.drop 2 [c0, c1, c2])) = some y2 := hall 2 _ rfl
    rw [show Try.prog.cellsOf 4 = 1 by kernel_rfl] at h
    exact h
  obtain ⟨v0, q0, _, w0⟩ := DataW.trod_int Try.underlying3 h0
  obtain ⟨a, len, cap, l, q1, hw⟩ := in_stampeds h1
  obtain ⟨v2, q2, _⟩ := DataW.trod_bool Try.underlying4 h2
  simp only [List.cons.injEq, and_true] at q0 q1 q2
  subst q0 q1 q2
  have := bounds_i64 w0
  exact ⟨v0, a, len, cap, l, v2, rfl, by omega, hw⟩

theorem in_mark (hf : DataW.trod enc Try.prog W 0 (fun _ => true) true fuel 29 cs = some x) : ∃ a0 a1 a2 a3, cs = [.int .i64 a0, .int .i64 a1, .int .i64 a2, .int .i64 a3] ∧ (-9223372036854775808 ≤ a0 ∧ a0 ≤ 9223372036854775807) ∧ (-9223372036854775808 ≤ a1 ∧ a1 ≤ 9223372036854775807) ∧ (-9223372036854775808 ≤ a2 ∧ a2 ≤ 9223372036854775807) ∧ (-9223372036854775808 ≤ a3 ∧ a3 ≤ 9223372036854775807) := by
  obtain ⟨ys, n, -, rfl, hlen, hys, hall⟩ := DataW.trod_struct Try.underlying29 hf
  have eT : Try.prog.cellsOf 29 = 4 := by kernel_rfl
  rw [eT] at hlen
  obtain ⟨c0, c1, c2, c3, rfl⟩ := list4 hlen
  obtain ⟨y0, y1, y2, y3, rfl⟩ := list4 (l := ys) hys
  have h0 : DataW.trod enc Try.prog W 0 (fun _ => true) true n 2 [c0] = some y0 := by
    have h : DataW.trod enc Try.prog W 0 (fun _ => true) true n 2 (List.take (Try.prog.cellsOf 2) (List.drop 0 [c0, c1, c2, c3])) = some y0 := hall 0 _ rfl
    rw [show Try.prog.cellsOf 2 = 1 by kernel_rfl] at h
    exact h
  have h1 : DataW.trod enc Try.prog W 0 (fun _ => true) true n 3 [c1] = some y1 := by
    have h : DataW.trod enc Try.prog W 0 (fun _ => true) true n 3 (List.take (Try.prog.cellsOf 3) (List.drop 1 [c0, c1, c2, c3])) = some y1 := hall 1 _ rfl
    rw [show Try.prog.cellsOf 3 = 1 by kernel_rfl] at h
    exact h
  have h2 : DataW.trod enc Try.prog W 0 (fun _ => true) true n 2 [c2] = some y2 := by
    have h : DataW.trod enc Try.prog W 0 (fun _ => true) true n 2 (List.take (Try.prog.cellsOf 2) (List.drop 2 [c0, c1, c2, c3])) = some y2 := hall 2 _ rfl
    rw [show Try.prog.cellsOf 2 = 1 by kernel_rfl] at h
    exact h
  have h3 : DataW.trod enc Try.prog W 0 (fun _ => true) true n 2 [c3] = some y3 := by
    have h : DataW.trod enc Try.prog W 0 (fun _ => true) true n 2 (List.take (Try.prog.cellsOf 2) (List.drop 3 [c0, c1, c2, c3])) = some y3 := hall 3 _ rfl
    rw [show Try.prog.cellsOf 2 = 1 by kernel_rfl] at h
    exact h
  obtain ⟨v0, q0, _, w0⟩ := DataW.trod_int Try.underlying2 h0
  obtain ⟨v1, q1, _, w1⟩ := DataW.trod_int Try.underlying3 h1
  obtain ⟨v2, q2, _, w2⟩ := DataW.trod_int Try.underlying2 h2
  obtain ⟨v3, q3, _, w3⟩ := DataW.trod_int Try.underlying2 h3
  simp only [List.cons.injEq, and_true] at q0 q1 q2 q3
  subst q0 q1 q2 q3
  have r0 := bounds_i64 w0
  have r1 := bounds_i64 w1
  have r2 := bounds_i64 w2
  have r3 := bounds_i64 w3
  exact ⟨v0, v1, v2, v3, rfl, by omega, by omega, by omega, by omega⟩

/-- Every number of a master is an int64. -/
def Ms.ok (m : Ms) : Prop := (-9223372036854775808 ≤ m.seq ∧ m.seq ≤ 9223372036854775807) ∧ (-9223372036854775808 ≤ m.area ∧ m.area ≤ 9223372036854775807) ∧ (-9223372036854775808 ≤ m.chunks ∧ m.chunks ≤ 9223372036854775807) ∧ (-9223372036854775808 ≤ m.ts ∧ m.ts ≤ 9223372036854775807) ∧ (-9223372036854775808 ≤ m.sector ∧ m.sector ≤ 9223372036854775807) ∧ (-9223372036854775808 ≤ m.offset ∧ m.offset ≤ 9223372036854775807) ∧ (-9223372036854775808 ≤ m.number ∧ m.number ≤ 9223372036854775807) ∧ (-9223372036854775808 ≤ m.run ∧ m.run ≤ 9223372036854775807)

theorem in_master (hf : DataW.trod enc Try.prog W 0 (fun _ => true) true fuel 31 cs = some x) : ∃ m : Ms, cs = m.cells ∧ m.ok := by
  obtain ⟨ys, n, -, rfl, hlen, hys, hall⟩ := DataW.trod_struct Try.underlying31 hf
  have eT : Try.prog.cellsOf 31 = 8 := by kernel_rfl
  rw [eT] at hlen
  obtain ⟨c0, c1, c2, c3, c4, c5, c6, c7, rfl⟩ := list8 hlen
  obtain ⟨y0, y1, y2, y3, y4, rfl⟩ := list5 (l := ys) hys
  have h0 : DataW.trod enc Try.prog W 0 (fun _ => true) true n 2 [c0] = some y0 := by
    have h : DataW.trod enc Try.prog W 0 (fun _ => true) true n 2 (List.take (Try.prog.cellsOf 2) (List.drop 0 [c0, c1, c2, c3, c4, c5, c6, c7])) = some y0 := hall 0 _ rfl
    rw [show Try.prog.cellsOf 2 = 1 by kernel_rfl] at h
    exact h
  have h1 : DataW.trod enc Try.prog W 0 (fun _ => true) true n 3 [c1] = some y1 := by
    have h : DataW.trod enc Try.prog W 0 (fun _ => true) true n 3 (List.take (Try.prog.cellsOf 3) (List.drop 1 [c0, c1, c2, c3, c4, c5, c6, c7])) = some y1 := hall 1 _ rfl
    rw [show Try.prog.cellsOf 3 = 1 by kernel_rfl] at h
    exact h
  have h2 : DataW.trod enc Try.prog W 0 (fun _ => true) true n 3 [c2] = some y2 := by
    have h : DataW.trod enc Try.prog W 0 (fun _ => true) true n 3 (List.take (Try.prog.cellsOf 3) (List.drop 2 [c0, c1, c2, c3, c4, c5, c6, c7])) = some y2 := hall 2 _ rfl
    rw [show Try.prog.cellsOf 3 = 1 by kernel_rfl] at h
    exact h
  have h3 : DataW.trod enc Try.prog W 0 (fun _ => true) true n 2 [c3] = some y3 := by
    have h : DataW.trod enc Try.prog W 0 (fun _ => true) true n 2 (List.take (Try.prog.cellsOf 2) (List.drop 3 [c0, c1, c2, c3, c4, c5, c6, c7])) = some y3 := hall 3 _ rfl
    rw [show Try.prog.cellsOf 2 = 1 by kernel_rfl] at h
    exact h
  have h4 : DataW.trod enc Try.prog W 0 (fun _ => true) true n 29 [c4, c5, c6, c7] = some y4 := by
    have h : DataW.trod enc Try.prog W 0 (fun _ => true) true n 29 (List.take (Try.prog.cellsOf 29) (List.drop 4 [c0, c1, c2, c3, c4, c5, c6, c7])) = some y4 := hall 4 _ rfl
    rw [show Try.prog.cellsOf 29 = 4 by kernel_rfl] at h
    exact h
  obtain ⟨v0, q0, _, w0⟩ := DataW.trod_int Try.underlying2 h0
  obtain ⟨v1, q1, _, w1⟩ := DataW.trod_int Try.underlying3 h1
  obtain ⟨v2, q2, _, w2⟩ := DataW.trod_int Try.underlying3 h2
  obtain ⟨v3, q3, _, w3⟩ := DataW.trod_int Try.underlying2 h3
  obtain ⟨a0, a1, a2, a3, q4, s0, s1, s2, s3⟩ := in_mark h4
  simp only [List.cons.injEq, and_true] at q0 q1 q2 q3 q4
  obtain ⟨e0, e1, e2, e3⟩ := q4
  subst q0 q1 q2 q3 e0 e1 e2 e3
  have r0 := bounds_i64 w0
  have r1 := bounds_i64 w1
  have r2 := bounds_i64 w2
  have r3 := bounds_i64 w3
  refine ⟨⟨v0, v1, v2, v3, a0, a1, a2, a3⟩, rfl, ?_⟩
  unfold Ms.ok
  simp only
  omega

end

end Go.Proofs.Ytlfgclmgpbaenaa

namespace Go.Proofs.Ytlfgclmgpbaenaa
open Go.ChangeShapes Go.WideShapes Go.ChangeAt Go.RowKit
set_option linter.unusedVariables false
set_option maxRecDepth 100000

theorem Came.bys {w w' : World} {v : Value} {e : Int} {xs : List Int} (h : Came w w' v e xs) : ∃ p c, v = .slice p (if e = 0 then xs else []).length c ∧ Bys w' p (if e = 0 then xs else []) := by
  by_cases he : e = 0
  · rw [if_pos he]
    obtain ⟨p, c, hv, -, -, hb⟩ := (h.2.1 he).bys
    exact ⟨p, c, hv, hb⟩
  · rw [if_neg he]
    exact ⟨none, 0, h.2.2 he, Bys.nil _ _⟩

set_option maxHeartbeats 8000000 in
theorem walk_recordWrites (ts : Int) (p : Option Addr) (len cap : Nat) (l : List Wr) (n : Int) (q : Option Addr) (m qc : Nat) (ll : List St) (d : Bool) (ms : Ms) (w : World) (hts : -9223372036854775808 ≤ ts ∧ ts ≤ 9223372036854775807) (hin : InW w p len cap l) (hn : -9223372036854775808 ≤ n ∧ n ≤ 9223372036854775807) (his : InS w q m qc ll) (hms : ms.ok) :
    Calls Try.prog 4 #[.agg #[.int .i64 ts, .slice p len cap], .agg #[.int .i64 n, .slice q m qc, .bool d], .agg ms.cells.toArray] w fun e w' => e = .returned (.bool true) ∧ Below w.heap.size w w' := by
  have hle := hin.le
  have hroom := hin.room
  have HI : Hid (∀ w', Below w.heap.size w w' → InW w' p len cap l) := fun w' hb => hin.up hb
  have HJ : Hid (∀ w', Below w.heap.size w w' → InS w' q m qc ll) := fun w' hb => his.up hb
  have HTS : Hid (∀ g ∈ ll, -9223372036854775808 ≤ g.ts ∧ g.ts ≤ 9223372036854775807) := his.size
  clear hin his hts hn hms
  have hbx : Below w.heap.size w (((w.alloc (.cells #[.int .i64 ts, .slice p len cap] 24)).alloc (.cells #[.int .i64 n, .slice q m qc, .bool d] 27)).alloc (.cells ms.cells.toArray 31)) := (((Below.refl _ _).alloc (Nat.le_refl _) _).alloc (by simp) _).alloc (by simp; omega) _
  have k1 : Bk (((w.alloc (.cells #[.int .i64 ts, .slice p len cap] 24)).alloc (.cells #[.int .i64 n, .slice q m qc, .bool d] 27)).alloc (.cells ms.cells.toArray 31)) w.heap.size 24 #[.int .i64 ts, .slice p len cap] := ((Bk.new _ _ _).alloc _).alloc _
  have k2 : Bk (((w.alloc (.cells #[.int .i64 ts, .slice p len cap] 24)).alloc (.cells #[.int .i64 n, .slice q m qc, .bool d] 27)).alloc (.cells ms.cells.toArray 31)) (w.heap.size + 1) 27 #[.int .i64 n, .slice q m qc, .bool d] := by
    have := (Bk.new (w.alloc (.cells #[.int .i64 ts, .slice p len cap] 24)) 27 #[.int .i64 n, .slice q m qc, .bool d]).alloc (.cells ms.cells.toArray 31)
    simpa using this
  have k3 : Bk (((w.alloc (.cells #[.int .i64 ts, .slice p len cap] 24)).alloc (.cells #[.int .i64 n, .slice q m qc, .bool d] 27)).alloc (.cells ms.cells.toArray 31)) (w.heap.size + 2) 31 ms.cells.toArray := by
    have := Bk.new ((w.alloc (.cells #[.int .i64 ts, .slice p len cap] 24)).alloc (.cells #[.int .i64 n, .slice q m qc, .bool d] 27)) 31 ms.cells.toArray
    simpa using this
  have hs : (((w.alloc (.cells #[.int .i64 ts, .slice p len cap] 24)).alloc (.cells #[.int .i64 n, .slice q m qc, .bool d] 27)).alloc (.cells ms.cells.toArray 31)).heap.size = w.heap.size + 3 := by simp
  have HBK : Hid (∀ w', Below (w.heap.size + 3) (((w.alloc (.cells #[.int .i64 ts, .slice p len cap] 24)).alloc (.cells #[.int .i64 n, .slice q m qc, .bool d] 27)).alloc (.cells ms.cells.toArray 31)) w' → Below w.heap.size w w' ∧ Bk w' w.heap.size 24 #[.int .i64 ts, .slice p len cap] ∧ Bk w' (w.heap.size + 1) 27 #[.int .i64 n, .slice q m qc, .bool d] ∧ Bk w' (w.heap.size + 2) 31 ms.cells.toArray) :=
    fun w' hb => ⟨hbx.trans (hb.mono (by omega)), k1.below hb (by omega), k2.below hb (by omega), k3.below hb (by omega)⟩
  have HB0 : Hid (Below (w.heap.size + 3) (((w.alloc (.cells #[.int .i64 ts, .slice p len cap] 24)).alloc (.cells #[.int .i64 n, .slice q m qc, .bool d] 27)).alloc (.cells ms.cells.toArray 31)) (((w.alloc (.cells #[.int .i64 ts, .slice p len cap] 24)).alloc (.cells #[.int .i64 n, .slice q m qc, .bool d] 27)).alloc (.cells ms.cells.toArray 31))) := Below.refl _ _
  clear k1 k2 k3 hs hbx
  obtain ⟨w0, hw0⟩ : ∃ w0, (((w.alloc (.cells #[.int .i64 ts, .slice p len cap] 24)).alloc (.cells #[.int .i64 n, .slice q m qc, .bool d] 27)).alloc (.cells ms.cells.toArray 31)) = w0 := ⟨_, rfl⟩
  rw [hw0] at HBK HB0
  have HW0 : Hid _ := hw0
  clear hw0
  have HC : Hid (∀ w', Below (w.heap.size + 3) w0 w' → (w'.cell? ⟨w.heap.size, 0, none⟩ = some (.int .i64 ts) ∧ w'.cell? ⟨w.heap.size, 1, none⟩ = some (.slice p len cap)) ∧ (w'.cell? ⟨w.heap.size + 1, 0, none⟩ = some (.int .i64 n) ∧ w'.cell? ⟨w.heap.size + 1, 1, none⟩ = some (.slice q m qc) ∧ w'.cell? ⟨w.heap.size + 1, 2, none⟩ = some (.bool d)) ∧
      (w'.cell? ⟨w.heap.size + 2, 0, none⟩ = some (.int .i64 ms.seq) ∧ w'.cell? ⟨w.heap.size + 2, 1, none⟩ = some (.int .i64 ms.area) ∧ w'.cell? ⟨w.heap.size + 2, 2, none⟩ = some (.int .i64 ms.chunks) ∧ w'.cell? ⟨w.heap.size + 2, 3, none⟩ = some (.int .i64 ms.ts) ∧ w'.cell? ⟨w.heap.size + 2, 4, none⟩ = some (.int .i64 ms.sector) ∧ w'.cell? ⟨w.heap.size + 2, 5, none⟩ = some (.int .i64 ms.offset) ∧ w'.cell? ⟨w.heap.size + 2, 6, none⟩ = some (.int .i64 ms.number) ∧ w'.cell? ⟨w.heap.size + 2, 7, none⟩ = some (.int .i64 ms.run))) := by
    intro w' hb
    obtain ⟨-, b1, b2, b3⟩ := HBK.out w' hb
    exact ⟨⟨b1.cell 0, b1.cell 1⟩, ⟨b2.cell 0, b2.cell 1, b2.cell 2⟩, ⟨b3.cell 0, b3.cell 1, b3.cell 2, b3.cell 3, b3.cell 4, b3.cell 5, b3.cell 6, b3.cell 7⟩⟩
  have HSZ : Hid (∀ w', Below (w.heap.size + 3) w0 w' → w.heap.size + 3 ≤ w'.heap.size) := fun w' hb => by have := hb.size; have := (HBK.out w0 HB0.out).2.2.2.lt; omega
  obtain ⟨Y1, hY1⟩ : ∃ Y, (if Rc.comE ts l = 0 then Rc.comB ts l else []) = Y := ⟨_, rfl⟩
  obtain ⟨Y2, hY2⟩ : ∃ Y, (if Rc.chE n ll = 0 then Rc.chB n d ll else []) = Y := ⟨_, rfl⟩
  obtain ⟨Y3, hY3⟩ : ∃ Y, (if Rc.msE ms = 0 then Rc.msB ms else []) = Y := ⟨_, rfl⟩
  have G1 : Hid _ := hY1
  have B1 : Hid (∀ y ∈ Y1, 0 ≤ y ∧ y < 256) := by
    rw [← hY1]
    split
    · rename_i h; exact Rc.comB_byte h
    · intro y hy; cases hy
  have G2 : Hid _ := hY2
  have B2 : Hid (∀ y ∈ Y2, 0 ≤ y ∧ y < 256) := by
    rw [← hY2]
    split
    · rename_i h; exact Rc.chB_byte h HTS.out
    · intro y hy; cases hy
  have G3 : Hid _ := hY3
  have B3 : Hid (∀ y ∈ Y3, 0 ≤ y ∧ y < 256) := by
    rw [← hY3]
    split
    · rename_i h; exact Rc.msB_byte h
    · intro y hy; cases hy
  clear hY1 hY2 hY3
  go_enter Try.func4, Try.ntmps4
  obtain ⟨k1, k2, k3⟩ := HC.out _ HB0.out
  go_wp2_with fail
  rw [HW0.out]
  refine (commit_any ts p len cap l _ (HI.out _ (HBK.out _ HB0.out).1)).mono ?_
  rintro e w1 ⟨v, rfl, hcm⟩
  obtain ⟨p0, c0, hv, hy⟩ := hcm.bys
  rw [G1.out] at hv hy
  subst hv
  have H1 : Hid (Below (w.heap.size + 3) w0 w1) := HB0.out.trans (hcm.1.mono (HSZ.out _ HB0.out))
  have R0_1 : Hid (Bys w1 p0 Y1) := hy
  clear hy hcm k1 k2 k3
  obtain ⟨k1, k2, k3⟩ := HC.out _ H1.out
  go_wp2_with fail
  refine (rcommit_any ts p len cap l _ (HI.out _ (HBK.out _ H1.out).1)).mono ?_
  rintro e w2 ⟨v, rfl, hcm⟩
  obtain ⟨p1, c1, hv, hy⟩ := hcm.bys
  rw [G1.out] at hv hy
  subst hv
  have H2 : Hid (Below (w.heap.size + 3) w0 w2) := H1.out.trans (hcm.1.mono (HSZ.out _ H1.out))
  have R0_2 : Hid (Bys w2 p0 Y1) := R0_1.out.below hcm.1 (Nat.le_refl _)
  have R1_2 : Hid (Bys w2 p1 Y1) := hy
  clear hy hcm k1 k2 k3 R0_1
  obtain ⟨k1, k2, k3⟩ := HC.out _ H2.out
  go_wp2_with fail
  refine (chunk_any n d q m qc ll _ (HJ.out _ (HBK.out _ H2.out).1)).mono ?_
  rintro e w3 ⟨v, rfl, hcm⟩
  obtain ⟨p2, c2, hv, hy⟩ := hcm.bys
  rw [G2.out] at hv hy
  subst hv
  have H3 : Hid (Below (w.heap.size + 3) w0 w3) := H2.out.trans (hcm.1.mono (HSZ.out _ H2.out))
  have R0_3 : Hid (Bys w3 p0 Y1) := R0_2.out.below hcm.1 (Nat.le_refl _)
  have R1_3 : Hid (Bys w3 p1 Y1) := R1_2.out.below hcm.1 (Nat.le_refl _)
  have R2_3 : Hid (Bys w3 p2 Y2) := hy
  clear hy hcm k1 k2 k3 R0_2 R1_2
  obtain ⟨k1, k2, k3⟩ := HC.out _ H3.out
  go_wp2_with fail
  refine (rchunk_any n d q m qc ll _ (HJ.out _ (HBK.out _ H3.out).1)).mono ?_
  rintro e w4 ⟨v, rfl, hcm⟩
  obtain ⟨p3, c3, hv, hy⟩ := hcm.bys
  rw [G2.out] at hv hy
  subst hv
  have H4 : Hid (Below (w.heap.size + 3) w0 w4) := H3.out.trans (hcm.1.mono (HSZ.out _ H3.out))
  have R0_4 : Hid (Bys w4 p0 Y1) := R0_3.out.below hcm.1 (Nat.le_refl _)
  have R1_4 : Hid (Bys w4 p1 Y1) := R1_3.out.below hcm.1 (Nat.le_refl _)
  have R2_4 : Hid (Bys w4 p2 Y2) := R2_3.out.below hcm.1 (Nat.le_refl _)
  have R3_4 : Hid (Bys w4 p3 Y2) := hy
  clear hy hcm k1 k2 k3 R0_3 R1_3 R2_3
  obtain ⟨k1, k2, k3⟩ := HC.out _ H4.out
  go_wp2_with fail
  refine (master_any ms _).mono ?_
  rintro e w5 ⟨v, rfl, hcm⟩
  obtain ⟨p4, c4, hv, hy⟩ := hcm.bys
  rw [G3.out] at hv hy
  subst hv
  have H5 : Hid (Below (w.heap.size + 3) w0 w5) := H4.out.trans (hcm.1.mono (HSZ.out _ H4.out))
  have R0_5 : Hid (Bys w5 p0 Y1) := R0_4.out.below hcm.1 (Nat.le_refl _)
  have R1_5 : Hid (Bys w5 p1 Y1) := R1_4.out.below hcm.1 (Nat.le_refl _)
  have R2_5 : Hid (Bys w5 p2 Y2) := R2_4.out.below hcm.1 (Nat.le_refl _)
  have R3_5 : Hid (Bys w5 p3 Y2) := R3_4.out.below hcm.1 (Nat.le_refl _)
  have R4_5 : Hid (Bys w5 p4 Y3) := hy
  clear hy hcm k1 k2 k3 R0_4 R1_4 R2_4 R3_4
  obtain ⟨k1, k2, k3⟩ := HC.out _ H5.out
  go_wp2_with fail
  refine (rmaster_any ms _).mono ?_
  rintro e w6 ⟨v, rfl, hcm⟩
  obtain ⟨p5, c5, hv, hy⟩ := hcm.bys
  rw [G3.out] at hv hy
  subst hv
  have H6 : Hid (Below (w.heap.size + 3) w0 w6) := H5.out.trans (hcm.1.mono (HSZ.out _ H5.out))
  have R0_6 : Hid (Bys w6 p0 Y1) := R0_5.out.below hcm.1 (Nat.le_refl _)
  have R1_6 : Hid (Bys w6 p1 Y1) := R1_5.out.below hcm.1 (Nat.le_refl _)
  have R2_6 : Hid (Bys w6 p2 Y2) := R2_5.out.below hcm.1 (Nat.le_refl _)
  have R3_6 : Hid (Bys w6 p3 Y2) := R3_5.out.below hcm.1 (Nat.le_refl _)
  have R4_6 : Hid (Bys w6 p4 Y3) := R4_5.out.below hcm.1 (Nat.le_refl _)
  have R5_6 : Hid (Bys w6 p5 Y3) := hy
  clear hy hcm k1 k2 k3 R0_5 R1_5 R2_5 R3_5 R4_5
  go_wp2_with fail
  refine (live_any _).mono ?_
  rintro e w7 ⟨rfl, hb⟩
  have H7 : Hid (Below (w.heap.size + 3) w0 w7) := H6.out.trans (hb.mono (HSZ.out _ H6.out))
  have R0_7 : Hid (Bys w7 p0 Y1) := R0_6.out.below hb (Nat.le_refl _)
  have R1_7 : Hid (Bys w7 p1 Y1) := R1_6.out.below hb (Nat.le_refl _)
  have R2_7 : Hid (Bys w7 p2 Y2) := R2_6.out.below hb (Nat.le_refl _)
  have R3_7 : Hid (Bys w7 p3 Y2) := R3_6.out.below hb (Nat.le_refl _)
  have R4_7 : Hid (Bys w7 p4 Y3) := R4_6.out.below hb (Nat.le_refl _)
  have R5_7 : Hid (Bys w7 p5 Y3) := R5_6.out.below hb (Nat.le_refl _)
  clear hb R0_6 R1_6 R2_6 R3_6 R4_6 R5_6
  go_wp2_with fail
  refine (equal_any p0 p1 c0 c1 _ _ Y1 Y1 _ rfl rfl R0_7.out R1_7.out B1.out B1.out).mono ?_
  rintro e w8 ⟨rfl, hw⟩
  subst hw
  simp only [decide_true]
  go_wp2_with fail
  refine (equal_any p2 p3 c2 c3 _ _ Y2 Y2 _ rfl rfl R2_7.out R3_7.out B2.out B2.out).mono ?_
  rintro e w9 ⟨rfl, hw⟩
  subst hw
  simp only [decide_true]
  go_wp2_with fail
  refine (equal_any p4 p5 c4 c5 _ _ Y3 Y3 _ rfl rfl R4_7.out R5_7.out B3.out B3.out).mono ?_
  rintro e w10 ⟨rfl, hw⟩
  subst hw
  simp only [decide_true]
  go_wp2
  go_ret
  exact ⟨by simp, (HBK.out _ H7.out).1⟩

set_option maxRecDepth 100000 in
set_option maxHeartbeats 2000000 in
theorem lifted_recordWrites (os : Os) (started : os.Started) (H : Type) (enc : TypeId × Value → H) :
    ReturnsInHanded {} Try.checked os 4 .any (Rows.recordWritesSpec.pre6 enc Try.prog Try.f4 Rows.recordWritesRow.domain false) (Rows.recordWritesSpec.post enc Try.prog Try.f4 false true false false) := by
  refine returnsInHanded_of_change_sized (C := Try.checked) own started (by kernel_rfl) Try.func4
    (ChangeSpec.witness6 (enc := enc) (C := Try.checked) false ⟨#[], #[.agg #[.int .i64 0, .slice none 0 0], .agg #[.int .i64 0, .slice none 0 0, .bool false], .agg #[.int .i64 0, .int .i64 0, .int .i64 0, .int .i64 0, .int .i64 0, .int .i64 0, .int .i64 0, .int .i64 0]], []⟩ 8 (by kernel_rfl) (by kernel_rfl) (by kernel_rfl) (by kernel_rfl)) ?_
  intro W base args ds gs before hval0 hW _ hsz0 _
  have hsz : (DataW.weightsEach Try.prog (Try.f4.params.toList ++ Rows.recordWritesSpec.plain.varTypes Try.prog) (ds ++ gs)).all (· ≤ reachBytes) = true := hsz0
  clear hsz0
  have hval : ∀ (j : Nat) t v, Try.f4.params[j]? = some t → args[j]? = some v → Value.okWide Try.prog W .any base t v := hval0
  have hW' := hW
  obtain ⟨p, q, hA0, hV, rfl, hfz, hnd⟩ := hW
  have hA : DataW.TrodAll enc Try.prog W 0 (fun _ => true) true Try.f4.params.toList args.toList ds p := hA0
  rw [Try.params4] at hA hval hsz
  obtain ⟨v0, vs0, d0, ds0, p0, q0, hargs, rfl, rfl, h0, r0⟩ := trodAll_cons hA
  obtain ⟨v1, vs1, d1, ds1, p1, q1, rfl, rfl, rfl, h1, r1⟩ := trodAll_cons r0
  obtain ⟨v2, vs2, d2, ds2, p2, q2, rfl, rfl, rfl, h2, r2⟩ := trodAll_cons r1
  obtain ⟨rfl, rfl, rfl⟩ := trodAll_nil r2
  obtain rfl : args = #[v0, v1, v2] := by cases args; simp_all
  obtain ⟨rfl, rfl⟩ := trodVars_none hV
  have k0 := h0
  have lt0 : ∀ x ∈ p0, x.block < W.heap.size := by obtain ⟨m, hm⟩ := k0; exact DataW.trod_lt m _ _ _ hm
  obtain ⟨n0, a0, len0, cap0, l0, e0, u0, w0⟩ : ∃ n0 a0 len0 cap0 l0, v0 = .agg #[.int .i64 n0, .slice a0 len0 cap0] ∧ (-9223372036854775808 ≤ n0 ∧ n0 ≤ 9223372036854775807) ∧ InW W a0 len0 cap0 l0 := by
    obtain ⟨cs, hcs, _⟩ := okWide_struct Try.underlying24 (hval 0 24 v0 rfl rfl)
    obtain ⟨fuel, hf⟩ := h0
    obtain ⟨n0, a0, len0, cap0, l0, hg, ho⟩ := in_commit hf
    refine ⟨n0, a0, len0, cap0, l0, ?_, ho⟩
    rw [hcs] at hg ⊢
    congr 1
    apply Array.ext'
    simpa [Value.cells] using hg
  subst e0
  have k1 := h1
  have lt1 : ∀ x ∈ p1, x.block < W.heap.size := by obtain ⟨m, hm⟩ := k1; exact DataW.trod_lt m _ _ _ hm
  obtain ⟨n1, a1, len1, cap1, l1, b1, e1, u1, w1⟩ : ∃ n1 a1 len1 cap1 l1 b1, v1 = .agg #[.int .i64 n1, .slice a1 len1 cap1, .bool b1] ∧ (-9223372036854775808 ≤ n1 ∧ n1 ≤ 9223372036854775807) ∧ InS W a1 len1 cap1 l1 := by
    obtain ⟨cs, hcs, _⟩ := okWide_struct Try.underlying27 (hval 1 27 v1 rfl rfl)
    obtain ⟨fuel, hf⟩ := h1
    obtain ⟨n1, a1, len1, cap1, l1, b1, hg, ho⟩ := in_chunk hf
    refine ⟨n1, a1, len1, cap1, l1, b1, ?_, ho⟩
    rw [hcs] at hg ⊢
    congr 1
    apply Array.ext'
    simpa [Value.cells] using hg
  subst e1
  have k2 := h2
  have lt2 : ∀ x ∈ p2, x.block < W.heap.size := by obtain ⟨m, hm⟩ := k2; exact DataW.trod_lt m _ _ _ hm
  obtain ⟨m2, e2, w2⟩ : ∃ m2 : Ms, v2 = .agg m2.cells.toArray ∧ m2.ok := by
    obtain ⟨cs, hcs, _⟩ := okWide_struct Try.underlying31 (hval 2 31 v2 rfl rfl)
    obtain ⟨fuel, hf⟩ := h2
    obtain ⟨m2, hg, ho⟩ := in_master hf
    refine ⟨m2, ?_, ho⟩
    rw [hcs] at hg ⊢
    congr 1
    apply Array.ext'
    simpa [Value.cells] using hg
  subst e2
  clear hA0 hval0
  refine (walk_recordWrites n0 a0 len0 cap0 l0 n1 a1 len1 cap1 l1 b1 m2 W u0 w0 u1 w1 w2).mono fun e W' ⟨he, bel⟩ => ?_
  subst he
  exact ⟨_, rfl, _, _, _, [], _, [], hW', trodAll_mk1 (shut_bool Try.underlying4 _), (trodAll_cons_mk (Below.trod laidOut (by kernel_rfl) (of_decide_eq_true (by kernel_rfl)) k0 bel lt0) (trodAll_cons_mk (Below.trod laidOut (by kernel_rfl) (of_decide_eq_true (by kernel_rfl)) k1 bel lt1) (trodAll_cons_mk (Below.trod laidOut (by kernel_rfl) (of_decide_eq_true (by kernel_rfl)) k2 bel lt2) trodAll_mk0))), rfl, bel.frame _, fun h => by cases h⟩

/-- The statement. -/
theorem recordWrites_holds : Rows.RecordWritesSaid :=
  OpenClaim.holds_of_wide 4 Try.f4 rfl rfl rfl rfl rfl rfl rfl ⟨rfl, rfl, rfl, rfl, rfl⟩ rfl rfl rfl rfl rfl (by kernel_rfl) Try.func4 (by kernel_rfl)
    (of_decide_eq_true (by kernel_rfl)) (by unfold Func.isWrapper; first | (rw [if_pos (by decide +kernel)]; kernel_rfl) | (rw [if_neg (by decide +kernel)]; exact ⟨rfl, rfl⟩))
    (fun os started H enc _ => lifted_recordWrites os started H enc)
#print axioms recordWrites_holds
end Go.Proofs.Ytlfgclmgpbaenaa
