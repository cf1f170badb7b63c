/- The document's bytes of records. -/
import Derived.Test.YtlfgclmgpbaenaaRcFill2
import Derived.Test.YtlfgclmgpbaenaaRcBytes
import Derived.Test.YtlfgclmgpbaenaaRcCom2
import Derived.Test.YtlfgclmgpbaenaaConvB
import Derived.Test.YtlfgclmgpbaenaaParses
import Derived.Test.YtlfgclmgpbaenaaRcOne
import Derived.Deep.RegionHeld3
namespace Go.Proofs.Ytlfgclmgpbaenaa
open Go.RowKit
set_option linter.unusedVariables false
set_option maxRecDepth 100000

/-- Bytes of the call's own since w0. -/
def Gt (w0 w : World) (v : Value) (xs : List Int) : Prop := Own w w0.heap.size v xs.length xs ∧ Below w0.heap.size w0 w

theorem Gt.nil (w : World) : Gt w w (.slice none 0 0) [] := ⟨World.ownsRow_nil _ _ _ _, Below.refl _ _⟩

theorem Gt.up {w0 w w' : World} {v : Value} {xs : List Int} (h : Gt w0 w v xs) (hb : Below w.heap.size w w') : Gt w0 w' v xs := ⟨h.1.below hb (Nat.le_refl _), h.2.trans (hb.mono h.2.size)⟩

set_option maxHeartbeats 1000000 in
theorem rnum_any {w0 w : World} {v : Value} {xs : List Int} (h : Gt w0 w v xs) (n : Int) (h0 : -9223372036854775808 ≤ n) (h1 : n ≤ 9223372036854775807) (hl : xs.length ≤ 1099511627776) :
    Calls Try.prog 50 #[v, .int .i64 n] w fun e w' => ∃ v', e = .returned v' ∧ Gt w0 w' v' (xs ++ Cd.enc n) := by
  have HG : Hid (Gt w0 w v xs) := h
  have hw := Cd.width_pos n
  clear h
  go_enter Try.func50, Try.ntmps50
  go_wp2_with fail
  refine (refInt_any n _ h0 h1).mono ?_
  rintro e w1 ⟨v1, rfl, ho1, hb1⟩
  obtain ⟨q, c, hv, -, hq, hby⟩ := ho1.bys
  subst hv
  have H1 : Hid (Gt w0 w1 v xs) := HG.out.up hb1
  have HQ : Hid (q = none → Cd.width n = 0 ∧ c = 0) := hq
  have HY : Hid (Bys w1 q (Cd.enc n)) := hby
  have HS : Hid (w0.heap.size ≤ w1.heap.size) := H1.out.2.size
  clear ho1 hb1 hq hby HG
  go_wp2_with (at_builtin; refine app8 w1 rfl _ _ rfl w0.heap.size v xs.length xs rfl H1.out.1 q (Cd.width n) c (Cd.enc n) rfl HY.out (Cd.enc_length n) HQ.out (by omega) HS.out ?_; intro v2 w2 ho2 hb2; refine Hid.out ?_)
  have HG2 : Hid (Gt w0 w2 v2 (xs ++ Cd.enc n)) := by
    refine ⟨?_, H1.out.2.trans hb2⟩
    rw [List.length_append, Cd.enc_length]
    exact ho2
  clear ho2 hb2
  unfold Hid
  go_wp2
  go_ret
  exact ⟨_, rfl, HG2.out⟩

set_option maxHeartbeats 1000000 in
theorem rflag_any {w0 w : World} {v : Value} {xs : List Int} (h : Gt w0 w v xs) (b : Bool) (hl : xs.length ≤ 1099511627776) :
    Calls Try.prog 51 #[v, .bool b] w fun e w' => ∃ v', e = .returned v' ∧ Gt w0 w' v' (xs ++ Rc.encF b) := by
  have HG : Hid (Gt w0 w v xs) := h
  have e0 : Rc.encF false = Cd.enc 0 := by decide
  have e1 : Rc.encF true = Cd.enc 1 := by decide
  have HE0 : Hid _ := e0
  have HE1 : Hid _ := e1
  clear h e0 e1
  cases b
  · go_enter Try.func51, Try.ntmps51
    go_wp2_with fail
    refine (rnum_any HG.out 0 (by omega) (by omega) hl).mono ?_
    rintro e w1 ⟨v1, rfl, h1⟩
    have H1 : Hid (Gt w0 w1 v1 (xs ++ Rc.encF false)) := by rw [HE0.out]; exact h1
    clear h1
    go_wp2
    go_ret
    exact ⟨_, rfl, H1.out⟩
  · go_enter Try.func51, Try.ntmps51
    go_wp2_with fail
    refine (rnum_any HG.out 1 (by omega) (by omega) hl).mono ?_
    rintro e w1 ⟨v1, rfl, h1⟩
    have H1 : Hid (Gt w0 w1 v1 (xs ++ Rc.encF true)) := by rw [HE1.out]; exact h1
    clear h1
    go_wp2
    go_ret
    exact ⟨_, rfl, H1.out⟩

set_option maxHeartbeats 1000000 in
theorem rtext_any {w0 w : World} {v : Value} {xs : List Int} (h : Gt w0 w v xs) (s : ByteArray) (hs : s.size ≤ 1099511627776) (hl : xs.length ≤ 1099511627776) :
    Calls Try.prog 52 #[v, .string s] w fun e w' => ∃ v', e = .returned v' ∧ Gt w0 w' v' (xs ++ Rc.encT s) := by
  have HG : Hid (Gt w0 w v xs) := h
  have hw := Cd.width_pos s.size
  obtain ⟨c0, w1, hr, hc0, hby1, hb1⟩ := conv_bytes w s
  have H1 : Hid (Gt w0 w1 v xs) := h.up hb1
  have HY1 : Hid (Bys w1 (some ⟨w.heap.size, 0, none⟩) (strB s)) := hby1
  have HSL : Hid ((strB s).length = s.size) := strB_length s
  clear h HG hby1 hb1
  go_enter Try.func52, Try.ntmps52
  go_wp2_with fail
  refine (refBytes_any (some ⟨w.heap.size, 0, none⟩) c0 s.size (strB s) _ HSL.out HY1.out (by omega) (fun h => by cases h)).mono ?_
  rintro e w2 ⟨v2, rfl, ho2, hb2⟩
  obtain ⟨q, c, hv, -, hq, hby⟩ := ho2.bys
  subst hv
  have H2 : Hid (Gt w0 w2 v xs) := H1.out.up hb2
  have HQ : Hid (q = none → Cd.width s.size + s.size = 0 ∧ c = 0) := hq
  have HY : Hid (Bys w2 q (Cd.enc s.size ++ strB s)) := hby
  have HS : Hid (w0.heap.size ≤ w2.heap.size) := H2.out.2.size
  have HL2 : Hid ((Cd.enc s.size ++ strB s).length = Cd.width s.size + s.size) := by simp [Hid, Cd.enc_length, strB_length]
  clear ho2 hb2 hq hby H1 HY1 hr
  go_wp2_with (at_builtin; refine app8 w2 rfl _ _ rfl w0.heap.size v xs.length xs rfl H2.out.1 q (Cd.width s.size + s.size) c (Cd.enc s.size ++ strB s) rfl HY.out HL2.out HQ.out (by omega) HS.out ?_; intro v3 w3 ho3 hb3; refine Hid.out ?_)
  have HG3 : Hid (Gt w0 w3 v3 (xs ++ Rc.encT s)) := by
    refine ⟨?_, H2.out.2.trans hb3⟩
    rw [List.length_append, Rc.encT_length]
    exact ho3
  clear ho3 hb3
  unfold Hid
  go_wp2
  go_ret
  exact ⟨_, rfl, HG3.out⟩

set_option maxHeartbeats 2000000 in
theorem writeForm_any (x : Wr) (w : World) (h1 : x.key.size ≤ 1099511627776) (h2 : x.val.size ≤ 274877906944) (h3 : x.key.size ≤ 274877906944) :
    Calls Try.prog 37 #[.agg x.cells.toArray] w fun e w' => ∃ v, e = .returned v ∧ Gt w w' v (Rc.wrB x) := by
  obtain ⟨k, v, d⟩ := x
  unfold Wr.cells
  simp only at h1 h2 h3
  have HK : Hid (Bk (w.alloc (.cells #[.string k, .string v, .bool d] 33)).drew w.heap.size 33 #[.string k, .string v, .bool d]) := Bk.new _ _ _
  have HG0 : Hid (Gt (w.alloc (.cells #[.string k, .string v, .bool d] 33)).drew (w.alloc (.cells #[.string k, .string v, .bool d] 33)).drew (.slice none 0 0) []) := Gt.nil _
  have HB0 : Hid (Below w.heap.size w (w.alloc (.cells #[.string k, .string v, .bool d] 33)).drew) := ((Below.refl _ _).alloc (Nat.le_refl _) _).drew
  have hek := Rc.encT_le k
  have HCC : Hid (∀ w', Below (w.alloc (.cells #[.string k, .string v, .bool d] 33)).drew.heap.size (w.alloc (.cells #[.string k, .string v, .bool d] 33)).drew w' → w'.cell? ⟨w.heap.size, 0, none⟩ = some (.string k) ∧ w'.cell? ⟨w.heap.size, 1, none⟩ = some (.string v) ∧ w'.cell? ⟨w.heap.size, 2, none⟩ = some (.bool d)) := by
    intro w' hb
    have := HK.out.below hb HK.out.lt
    exact ⟨this.cell 0, this.cell 1, this.cell 2⟩
  go_enter Try.func37, Try.ntmps37
  go_wp2_with fail
  go_region_held3 (fun w' => w'.cell? ⟨w.heap.size, 0, none⟩ = some (.string k) ∧ w'.cell? ⟨w.heap.size, 1, none⟩ = some (.string v) ∧ w'.cell? ⟨w.heap.size, 2, none⟩ = some (.bool d)) (go_keep) (first
    | (go_at_call_of 52 (Value.slice none 0 0); refine (rtext_any HG0.out k h1 (by simp)).mono ?_; rintro e w2 ⟨v2, rfl, hG2⟩; have hk2 := HCC.out w2 hG2.2)
    | (go_at_call 51; refine (rflag_any hG2 d (by simp; omega)).mono ?_; rintro e w3 ⟨v3, rfl, hG3⟩; have hk3 := HCC.out w3 hG3.2)
    | (go_at_call 52; refine (rtext_any hG3 v (by omega) (by simp [Rc.encF]; omega)).mono ?_; rintro e w4 ⟨v4, rfl, hG4⟩; have hk4 := HCC.out w4 hG4.2))
  have HG4 : Hid (Gt w w4 v4 (Rc.wrB ⟨k, v, d⟩)) := by
    have e4 : Rc.wrB ⟨k, v, d⟩ = [] ++ Rc.encT k ++ Rc.encF d ++ Rc.encT v := rfl
    rw [e4]
    exact ⟨hG4.1.mono HB0.out.size, HB0.out.trans (hG4.2.mono HB0.out.size)⟩
  clear hG2 hG3 hG4 hk2 hk3 hk4 HCC HG0 HK HB0
  go_wp2
  go_ret
  exact ⟨_, rfl, HG4.out⟩

end Go.Proofs.Ytlfgclmgpbaenaa
