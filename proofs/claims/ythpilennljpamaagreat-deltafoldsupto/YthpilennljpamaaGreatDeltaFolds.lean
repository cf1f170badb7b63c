/- Any page by any deltas, what they say of any key, and whether they are many: the code's answers are the document's. -/
import Derived.Test.YthpilennljpamaaGreatDeltaFoldsC
import Derived.Test.YthpilennljpamaaGreatDlA
import Derived.Test.YthpilennljpamaaGreatDeltaFoldsB
import Derived.Test.YthpilennljpamaaGreatDlX
import Derived.Test.YthpilennljpamaaGreatPgRq
import Derived.Test.YthpilennljpamaaGreatDeltaFoldsA
import Derived.Test.YthpilennljpamaaGreatDlV
namespace Go.Proofs.YthpilennljpamaaGreat
open Go.RowKit Go.Sort
set_option linter.unusedVariables false
set_option maxRecDepth 100000

/-- A value that leads to a page. -/
def Pat (w : World) (v : Value) (g : Pp) : Prop := ∃ p c, v = pgv g.leaf g.lo g.hi g.r p g.l.length c ∧ Ens w p g.l ∧ (p = none → g.l.length = 0 ∧ c = 0) ∧ g.l.length ≤ c

theorem OwnE.down {w : World} {base : Nat} {p : Option Addr} {len cap : Nat} {l : List En} (h : OwnE w base (.slice p len cap) l) : Ens w p l := by
  obtain ⟨q, c, hv, he, -⟩ := h.ens
  cases hv
  exact he

theorem OwnE.nl {w : World} {base : Nat} {p : Option Addr} {len cap : Nat} {l : List En} (h : OwnE w base (.slice p len cap) l) : (p = none → l.length = 0 ∧ cap = 0) ∧ l.length ≤ cap := by
  rcases h.2 with ⟨hv, hn⟩ | ⟨g, c, cur, hv, _, _, hle, _⟩
  · cases hv
    exact ⟨fun _ => ⟨hn, rfl⟩, by omega⟩
  · cases hv
    exact ⟨fun h => (by cases h), hle⟩
theorem PgAt.pat {w : World} {base : Nat} {v : Value} {g : Pp} (h : PgAt w base v g) : Pat w v g := by
  obtain ⟨p, c, hv, hs⟩ := h
  refine ⟨p, c, hv, hs.ens, fun h0 => ?_, hs.le⟩
  rcases hs.form with ⟨_, h1, h2⟩ | ⟨g, o, cur, h1, _⟩
  · exact ⟨h1, h2⟩
  · rw [h0] at h1; cases h1
theorem Pat.below {w w' : World} {v : Value} {g : Pp} (h : Pat w v g) {B : Nat} (hb : Below B w w') (hB : w.heap.size ≤ B) : Pat w' v g := by
  obtain ⟨p, c, hv, hs, h1⟩ := h
  exact ⟨p, c, hv, hs.below hb hB, h1⟩
theorem Pat.pv {w : World} {v : Value} {g : Pp} (h : Pat w v g) : ∃ p c, v = pgv g.leaf g.lo g.hi g.r p g.l.length c ∧ Ens w p g.l := by
  obtain ⟨p, c, h1, h2, -⟩ := h
  exact ⟨p, c, h1, h2⟩

set_option maxHeartbeats 4000000 in
theorem rapply_0 (pf : Bool) (plo phi : ByteArray) (pr : Int) (pp : Option Addr) (pn pc : Nat) (dk : Int) (dek : ByteArray) (des deg dec : Int) (dkey : ByteArray) (dpg : Int) (dleaf : Bool) (dlo dhi : ByteArray) (dr : Int) (dp : Option Addr) (dn dc : Nat) (w : World) (hc : ∀ W, Below w.heap.size w W → Calls Tryz.prog 27 #[.agg #[.int .i64 dk, .string dek, .int .i64 des, .int .i64 deg, .int .i64 dec, .string dkey, .int .i64 dpg, .bool dleaf, .string dlo, .string dhi, .int .i64 dr, .slice dp dn dc]] W fun e w' => e = .returned (.int .i64 90) ∧ Below W.heap.size W w') :
    Calls Tryz.prog 24 #[.agg #[.bool pf, .string plo, .string phi, .int .i64 pr, .slice pp pn pc], .agg #[.int .i64 dk, .string dek, .int .i64 des, .int .i64 deg, .int .i64 dec, .string dkey, .int .i64 dpg, .bool dleaf, .string dlo, .string dhi, .int .i64 dr, .slice dp dn dc]] w fun e w' => ∃ v, e = .returned (.tuple #[v, .int .i64 90]) ∧ Pat w' v ⟨false, ⟨#[]⟩, ⟨#[]⟩, 0, []⟩ ∧ Below w.heap.size w w' := by
  have HC : Hid _ := hc
  clear hc
  obtain ⟨w0, hw0⟩ : ∃ w0, ((w.alloc (.cells #[.bool pf, .string plo, .string phi, .int .i64 pr, .slice pp pn pc] 24)).alloc (.cells #[.int .i64 dk, .string dek, .int .i64 des, .int .i64 deg, .int .i64 dec, .string dkey, .int .i64 dpg, .bool dleaf, .string dlo, .string dhi, .int .i64 dr, .slice dp dn dc] 32)).alloc (.cells #[.bool false, .string ⟨#[]⟩, .string ⟨#[]⟩, .int .i64 0, .slice none 0 0] 24) = w0 := ⟨_, rfl⟩
  have HB0 : Hid (Below w.heap.size w w0) := by rw [← hw0]; exact (((Below.refl _ _).alloc (Nat.le_refl _) _).alloc (by simp) _).alloc (by simp; omega) _
  have HK0 : Hid (Bk w0 w.heap.size 24 #[.bool pf, .string plo, .string phi, .int .i64 pr, .slice pp pn pc]) := by rw [← hw0]; exact ((Bk.new _ _ _).alloc _).alloc _
  have HY0 : Hid (Bk w0 (w.heap.size + 1) 32 #[.int .i64 dk, .string dek, .int .i64 des, .int .i64 deg, .int .i64 dec, .string dkey, .int .i64 dpg, .bool dleaf, .string dlo, .string dhi, .int .i64 dr, .slice dp dn dc]) := by rw [← hw0]; exact (Bk.new1 _ _ _ _).alloc _
  have HR0 : Hid (Bk w0 (w.heap.size + 1 + 1) 24 #[.bool false, .string ⟨#[]⟩, .string ⟨#[]⟩, .int .i64 0, .slice none 0 0]) := by rw [← hw0]; exact Bk.new2 _ _ _ _ _
  have y0 : w0.cell? ⟨w.heap.size + 1, 0, none⟩ = some (.int .i64 dk) := HY0.out.cell 0
  have y1 : w0.cell? ⟨w.heap.size + 1, 1, none⟩ = some (.string dek) := HY0.out.cell 1
  have y2 : w0.cell? ⟨w.heap.size + 1, 2, none⟩ = some (.int .i64 des) := HY0.out.cell 2
  have y3 : w0.cell? ⟨w.heap.size + 1, 3, none⟩ = some (.int .i64 deg) := HY0.out.cell 3
  have y4 : w0.cell? ⟨w.heap.size + 1, 4, none⟩ = some (.int .i64 dec) := HY0.out.cell 4
  have y5 : w0.cell? ⟨w.heap.size + 1, 5, none⟩ = some (.string dkey) := HY0.out.cell 5
  have y6 : w0.cell? ⟨w.heap.size + 1, 6, none⟩ = some (.int .i64 dpg) := HY0.out.cell 6
  have y7 : w0.cell? ⟨w.heap.size + 1, 7, none⟩ = some (.bool dleaf) := HY0.out.cell 7
  have y8 : w0.cell? ⟨w.heap.size + 1, 8, none⟩ = some (.string dlo) := HY0.out.cell 8
  have y9 : w0.cell? ⟨w.heap.size + 1, 9, none⟩ = some (.string dhi) := HY0.out.cell 9
  have y10 : w0.cell? ⟨w.heap.size + 1, 10, none⟩ = some (.int .i64 dr) := HY0.out.cell 10
  have y11 : w0.cell? ⟨w.heap.size + 1, 11, none⟩ = some (.slice dp dn dc) := HY0.out.cell 11
  go_enter Tryz.func24, Tryz.ntmps24
  go_wp2_with fail
  refine (HC.out _ HB0.out).mono ?_
  rintro e w1 ⟨rfl, hb⟩
  clear y0 y1 y2 y3 y4 y5 y6 y7 y8 y9 y10 y11
  clear hw0 HC
  have HB1 : Hid (Below w.heap.size w w1) := HB0.out.trans (hb.mono HB0.out.size)
  have HK1 : Hid (Bk w1 w.heap.size 24 #[.bool pf, .string plo, .string phi, .int .i64 pr, .slice pp pn pc]) := HK0.out.below hb HK0.out.lt
  have HY1 : Hid (Bk w1 (w.heap.size + 1) 32 #[.int .i64 dk, .string dek, .int .i64 des, .int .i64 deg, .int .i64 dec, .string dkey, .int .i64 dpg, .bool dleaf, .string dlo, .string dhi, .int .i64 dr, .slice dp dn dc]) := HY0.out.below hb HY0.out.lt
  have HR1 : Hid (Bk w1 (w.heap.size + 1 + 1) 24 #[.bool false, .string ⟨#[]⟩, .string ⟨#[]⟩, .int .i64 0, .slice none 0 0]) := HR0.out.below hb HR0.out.lt
  clear hb HB0 HK0 HY0 HR0
  have a0 : w1.cell? ⟨w.heap.size, 0, none⟩ = some (.bool pf) := HK1.out.cell 0
  have a1 : w1.cell? ⟨w.heap.size, 1, none⟩ = some (.string plo) := HK1.out.cell 1
  have a2 : w1.cell? ⟨w.heap.size, 2, none⟩ = some (.string phi) := HK1.out.cell 2
  have a3 : w1.cell? ⟨w.heap.size, 3, none⟩ = some (.int .i64 pr) := HK1.out.cell 3
  have a4 : w1.cell? ⟨w.heap.size, 4, none⟩ = some (.slice pp pn pc) := HK1.out.cell 4
  have y0 : w1.cell? ⟨w.heap.size + 1, 0, none⟩ = some (.int .i64 dk) := HY1.out.cell 0
  have y1 : w1.cell? ⟨w.heap.size + 1, 1, none⟩ = some (.string dek) := HY1.out.cell 1
  have y2 : w1.cell? ⟨w.heap.size + 1, 2, none⟩ = some (.int .i64 des) := HY1.out.cell 2
  have y3 : w1.cell? ⟨w.heap.size + 1, 3, none⟩ = some (.int .i64 deg) := HY1.out.cell 3
  have y4 : w1.cell? ⟨w.heap.size + 1, 4, none⟩ = some (.int .i64 dec) := HY1.out.cell 4
  have y5 : w1.cell? ⟨w.heap.size + 1, 5, none⟩ = some (.string dkey) := HY1.out.cell 5
  have y6 : w1.cell? ⟨w.heap.size + 1, 6, none⟩ = some (.int .i64 dpg) := HY1.out.cell 6
  have y7 : w1.cell? ⟨w.heap.size + 1, 7, none⟩ = some (.bool dleaf) := HY1.out.cell 7
  have y8 : w1.cell? ⟨w.heap.size + 1, 8, none⟩ = some (.string dlo) := HY1.out.cell 8
  have y9 : w1.cell? ⟨w.heap.size + 1, 9, none⟩ = some (.string dhi) := HY1.out.cell 9
  have y10 : w1.cell? ⟨w.heap.size + 1, 10, none⟩ = some (.int .i64 dr) := HY1.out.cell 10
  have y11 : w1.cell? ⟨w.heap.size + 1, 11, none⟩ = some (.slice dp dn dc) := HY1.out.cell 11
  have b0 : w1.cell? ⟨w.heap.size + 1 + 1, 0, none⟩ = some (.bool false) := HR1.out.cell 0
  have bf0 : w1.frozen? ⟨w.heap.size + 1 + 1, 0, none⟩ = false := HR1.out.frozen 0
  have b1 : w1.cell? ⟨w.heap.size + 1 + 1, 1, none⟩ = some (.string ⟨#[]⟩) := HR1.out.cell 1
  have bf1 : w1.frozen? ⟨w.heap.size + 1 + 1, 1, none⟩ = false := HR1.out.frozen 1
  have b2 : w1.cell? ⟨w.heap.size + 1 + 1, 2, none⟩ = some (.string ⟨#[]⟩) := HR1.out.cell 2
  have bf2 : w1.frozen? ⟨w.heap.size + 1 + 1, 2, none⟩ = false := HR1.out.frozen 2
  have b3 : w1.cell? ⟨w.heap.size + 1 + 1, 3, none⟩ = some (.int .i64 0) := HR1.out.cell 3
  have bf3 : w1.frozen? ⟨w.heap.size + 1 + 1, 3, none⟩ = false := HR1.out.frozen 3
  have b4 : w1.cell? ⟨w.heap.size + 1 + 1, 4, none⟩ = some (.slice none 0 0) := HR1.out.cell 4
  have bf4 : w1.frozen? ⟨w.heap.size + 1 + 1, 4, none⟩ = false := HR1.out.frozen 4
  go_wp2
  clear a0 a1 a2 a3 a4
  clear y0 y1 y2 y3 y4 y5 y6 y7 y8 y9 y10 y11
  clear b0 bf0 b1 bf1 b2 bf2 b3 bf3 b4 bf4
  have k1 := HR1.out.five (.bool false) (.string ⟨#[]⟩) (.string ⟨#[]⟩) (.int .i64 0) (.slice none 0 0)
  have ht : Tn [w.heap.size + 1 + 1] w1 _ := (Tn.refl _ w1).five (R := w.heap.size + 1 + 1) (.inl (by simp)) (.bool false) (.string ⟨#[]⟩) (.string ⟨#[]⟩) (.int .i64 0) (.slice none 0 0)
  have hz := HB1.out.trans (ht.below HB1.out.size (by simp; omega))
  refine bodyPost_ret (results_two (T' := 24) (cs := [.bool false, .string ⟨#[]⟩, .string ⟨#[]⟩, .int .i64 0, .slice none 0 0]) rfl rfl pg_agg pg_size rfl k1) rfl ?_
  exact ⟨_, rfl, ⟨none, 0, rfl, Ens.nil _ _, fun _ => ⟨rfl, rfl⟩, Nat.le_refl _⟩, hz⟩

set_option maxHeartbeats 4000000 in
theorem rapply_1 (pf : Bool) (plo phi : ByteArray) (pr : Int) (pp : Option Addr) (pn pc : Nat) (dek : ByteArray) (des deg dec : Int) (dkey : ByteArray) (dpg : Int) (dleaf : Bool) (dlo dhi : ByteArray) (dr : Int) (dp : Option Addr) (dn dc : Nat) (w : World) (hc : ∀ W, Below w.heap.size w W → Calls Tryz.prog 27 #[.agg #[.int .i64 1, .string dek, .int .i64 des, .int .i64 deg, .int .i64 dec, .string dkey, .int .i64 dpg, .bool dleaf, .string dlo, .string dhi, .int .i64 dr, .slice dp dn dc]] W fun e w' => e = .returned (.int .i64 0) ∧ Below W.heap.size W w') (G : Pp) (kk : Int) (hq : ∀ W, Below w.heap.size w W → Calls Tryz.prog 44 #[.agg #[.bool pf, .string plo, .string phi, .int .i64 pr, .slice pp pn pc], .agg #[.string dek, .int .i64 des, .int .i64 deg, .int .i64 dec]] W fun e w' => ∃ v, e = .returned (.tuple #[v, .int .i64 kk]) ∧ PgAt w' W.heap.size v G ∧ Below W.heap.size W w') :
    Calls Tryz.prog 24 #[.agg #[.bool pf, .string plo, .string phi, .int .i64 pr, .slice pp pn pc], .agg #[.int .i64 1, .string dek, .int .i64 des, .int .i64 deg, .int .i64 dec, .string dkey, .int .i64 dpg, .bool dleaf, .string dlo, .string dhi, .int .i64 dr, .slice dp dn dc]] w fun e w' => ∃ v, e = .returned (.tuple #[v, .int .i64 kk]) ∧ Pat w' v G ∧ Below w.heap.size w w' := by
  have HQ : Hid _ := hq
  clear hq
  have HC : Hid _ := hc
  clear hc
  obtain ⟨w0, hw0⟩ : ∃ w0, ((w.alloc (.cells #[.bool pf, .string plo, .string phi, .int .i64 pr, .slice pp pn pc] 24)).alloc (.cells #[.int .i64 1, .string dek, .int .i64 des, .int .i64 deg, .int .i64 dec, .string dkey, .int .i64 dpg, .bool dleaf, .string dlo, .string dhi, .int .i64 dr, .slice dp dn dc] 32)).alloc (.cells #[.bool false, .string ⟨#[]⟩, .string ⟨#[]⟩, .int .i64 0, .slice none 0 0] 24) = w0 := ⟨_, rfl⟩
  have HB0 : Hid (Below w.heap.size w w0) := by rw [← hw0]; exact (((Below.refl _ _).alloc (Nat.le_refl _) _).alloc (by simp) _).alloc (by simp; omega) _
  have HK0 : Hid (Bk w0 w.heap.size 24 #[.bool pf, .string plo, .string phi, .int .i64 pr, .slice pp pn pc]) := by rw [← hw0]; exact ((Bk.new _ _ _).alloc _).alloc _
  have HY0 : Hid (Bk w0 (w.heap.size + 1) 32 #[.int .i64 1, .string dek, .int .i64 des, .int .i64 deg, .int .i64 dec, .string dkey, .int .i64 dpg, .bool dleaf, .string dlo, .string dhi, .int .i64 dr, .slice dp dn dc]) := by rw [← hw0]; exact (Bk.new1 _ _ _ _).alloc _
  have HR0 : Hid (Bk w0 (w.heap.size + 1 + 1) 24 #[.bool false, .string ⟨#[]⟩, .string ⟨#[]⟩, .int .i64 0, .slice none 0 0]) := by rw [← hw0]; exact Bk.new2 _ _ _ _ _
  have y0 : w0.cell? ⟨w.heap.size + 1, 0, none⟩ = some (.int .i64 1) := HY0.out.cell 0
  have y1 : w0.cell? ⟨w.heap.size + 1, 1, none⟩ = some (.string dek) := HY0.out.cell 1
  have y2 : w0.cell? ⟨w.heap.size + 1, 2, none⟩ = some (.int .i64 des) := HY0.out.cell 2
  have y3 : w0.cell? ⟨w.heap.size + 1, 3, none⟩ = some (.int .i64 deg) := HY0.out.cell 3
  have y4 : w0.cell? ⟨w.heap.size + 1, 4, none⟩ = some (.int .i64 dec) := HY0.out.cell 4
  have y5 : w0.cell? ⟨w.heap.size + 1, 5, none⟩ = some (.string dkey) := HY0.out.cell 5
  have y6 : w0.cell? ⟨w.heap.size + 1, 6, none⟩ = some (.int .i64 dpg) := HY0.out.cell 6
  have y7 : w0.cell? ⟨w.heap.size + 1, 7, none⟩ = some (.bool dleaf) := HY0.out.cell 7
  have y8 : w0.cell? ⟨w.heap.size + 1, 8, none⟩ = some (.string dlo) := HY0.out.cell 8
  have y9 : w0.cell? ⟨w.heap.size + 1, 9, none⟩ = some (.string dhi) := HY0.out.cell 9
  have y10 : w0.cell? ⟨w.heap.size + 1, 10, none⟩ = some (.int .i64 dr) := HY0.out.cell 10
  have y11 : w0.cell? ⟨w.heap.size + 1, 11, none⟩ = some (.slice dp dn dc) := HY0.out.cell 11
  go_enter Tryz.func24, Tryz.ntmps24
  go_wp2_with fail
  refine (HC.out _ HB0.out).mono ?_
  rintro e w1 ⟨rfl, hb⟩
  clear y0 y1 y2 y3 y4 y5 y6 y7 y8 y9 y10 y11
  clear hw0 HC
  have HB1 : Hid (Below w.heap.size w w1) := HB0.out.trans (hb.mono HB0.out.size)
  have HK1 : Hid (Bk w1 w.heap.size 24 #[.bool pf, .string plo, .string phi, .int .i64 pr, .slice pp pn pc]) := HK0.out.below hb HK0.out.lt
  have HY1 : Hid (Bk w1 (w.heap.size + 1) 32 #[.int .i64 1, .string dek, .int .i64 des, .int .i64 deg, .int .i64 dec, .string dkey, .int .i64 dpg, .bool dleaf, .string dlo, .string dhi, .int .i64 dr, .slice dp dn dc]) := HY0.out.below hb HY0.out.lt
  have HR1 : Hid (Bk w1 (w.heap.size + 1 + 1) 24 #[.bool false, .string ⟨#[]⟩, .string ⟨#[]⟩, .int .i64 0, .slice none 0 0]) := HR0.out.below hb HR0.out.lt
  clear hb HB0 HK0 HY0 HR0
  have a0 : w1.cell? ⟨w.heap.size, 0, none⟩ = some (.bool pf) := HK1.out.cell 0
  have a1 : w1.cell? ⟨w.heap.size, 1, none⟩ = some (.string plo) := HK1.out.cell 1
  have a2 : w1.cell? ⟨w.heap.size, 2, none⟩ = some (.string phi) := HK1.out.cell 2
  have a3 : w1.cell? ⟨w.heap.size, 3, none⟩ = some (.int .i64 pr) := HK1.out.cell 3
  have a4 : w1.cell? ⟨w.heap.size, 4, none⟩ = some (.slice pp pn pc) := HK1.out.cell 4
  have y0 : w1.cell? ⟨w.heap.size + 1, 0, none⟩ = some (.int .i64 1) := HY1.out.cell 0
  have y1 : w1.cell? ⟨w.heap.size + 1, 1, none⟩ = some (.string dek) := HY1.out.cell 1
  have y2 : w1.cell? ⟨w.heap.size + 1, 2, none⟩ = some (.int .i64 des) := HY1.out.cell 2
  have y3 : w1.cell? ⟨w.heap.size + 1, 3, none⟩ = some (.int .i64 deg) := HY1.out.cell 3
  have y4 : w1.cell? ⟨w.heap.size + 1, 4, none⟩ = some (.int .i64 dec) := HY1.out.cell 4
  have y5 : w1.cell? ⟨w.heap.size + 1, 5, none⟩ = some (.string dkey) := HY1.out.cell 5
  have y6 : w1.cell? ⟨w.heap.size + 1, 6, none⟩ = some (.int .i64 dpg) := HY1.out.cell 6
  have y7 : w1.cell? ⟨w.heap.size + 1, 7, none⟩ = some (.bool dleaf) := HY1.out.cell 7
  have y8 : w1.cell? ⟨w.heap.size + 1, 8, none⟩ = some (.string dlo) := HY1.out.cell 8
  have y9 : w1.cell? ⟨w.heap.size + 1, 9, none⟩ = some (.string dhi) := HY1.out.cell 9
  have y10 : w1.cell? ⟨w.heap.size + 1, 10, none⟩ = some (.int .i64 dr) := HY1.out.cell 10
  have y11 : w1.cell? ⟨w.heap.size + 1, 11, none⟩ = some (.slice dp dn dc) := HY1.out.cell 11
  have b0 : w1.cell? ⟨w.heap.size + 1 + 1, 0, none⟩ = some (.bool false) := HR1.out.cell 0
  have bf0 : w1.frozen? ⟨w.heap.size + 1 + 1, 0, none⟩ = false := HR1.out.frozen 0
  have b1 : w1.cell? ⟨w.heap.size + 1 + 1, 1, none⟩ = some (.string ⟨#[]⟩) := HR1.out.cell 1
  have bf1 : w1.frozen? ⟨w.heap.size + 1 + 1, 1, none⟩ = false := HR1.out.frozen 1
  have b2 : w1.cell? ⟨w.heap.size + 1 + 1, 2, none⟩ = some (.string ⟨#[]⟩) := HR1.out.cell 2
  have bf2 : w1.frozen? ⟨w.heap.size + 1 + 1, 2, none⟩ = false := HR1.out.frozen 2
  have b3 : w1.cell? ⟨w.heap.size + 1 + 1, 3, none⟩ = some (.int .i64 0) := HR1.out.cell 3
  have bf3 : w1.frozen? ⟨w.heap.size + 1 + 1, 3, none⟩ = false := HR1.out.frozen 3
  have b4 : w1.cell? ⟨w.heap.size + 1 + 1, 4, none⟩ = some (.slice none 0 0) := HR1.out.cell 4
  have bf4 : w1.frozen? ⟨w.heap.size + 1 + 1, 4, none⟩ = false := HR1.out.frozen 4
  go_wp2_with fail
  refine (HQ.out _ HB1.out).mono ?_
  rintro e w2 ⟨v, rfl, hg, hb⟩
  obtain ⟨Gp, Gc, rfl, hg4⟩ := hg.pv
  obtain ⟨Gf, Glo, Ghi, Gr, Gl⟩ := G
  simp only at hg4 ⊢
  obtain ⟨Gn, hGn⟩ : ∃ Gn, Gl.length = Gn := ⟨_, rfl⟩
  rw [hGn] at hg4 ⊢
  have HG : Hid (PgAt w2 w1.heap.size (pgv Gf Glo Ghi Gr Gp Gn Gc) ⟨Gf, Glo, Ghi, Gr, Gl⟩) := hg4
  have HS : Hid (w.heap.size + 1 + 1 < w1.heap.size) := HR1.out.lt
  clear hg hg4 hGn HQ
  clear a0 a1 a2 a3 a4
  clear y0 y1 y2 y3 y4 y5 y6 y7 y8 y9 y10 y11
  clear b0 bf0 b1 bf1 b2 bf2 b3 bf3 b4 bf4
  have HB2 : Hid (Below w.heap.size w w2) := HB1.out.trans (hb.mono HB1.out.size)
  have HK2 : Hid (Bk w2 w.heap.size 24 #[.bool pf, .string plo, .string phi, .int .i64 pr, .slice pp pn pc]) := HK1.out.below hb HK1.out.lt
  have HY2 : Hid (Bk w2 (w.heap.size + 1) 32 #[.int .i64 1, .string dek, .int .i64 des, .int .i64 deg, .int .i64 dec, .string dkey, .int .i64 dpg, .bool dleaf, .string dlo, .string dhi, .int .i64 dr, .slice dp dn dc]) := HY1.out.below hb HY1.out.lt
  have HR2 : Hid (Bk w2 (w.heap.size + 1 + 1) 24 #[.bool false, .string ⟨#[]⟩, .string ⟨#[]⟩, .int .i64 0, .slice none 0 0]) := HR1.out.below hb HR1.out.lt
  clear hb HB1 HK1 HY1 HR1
  have b0 : w2.cell? ⟨w.heap.size + 1 + 1, 0, none⟩ = some (.bool false) := HR2.out.cell 0
  have bf0 : w2.frozen? ⟨w.heap.size + 1 + 1, 0, none⟩ = false := HR2.out.frozen 0
  have b1 : w2.cell? ⟨w.heap.size + 1 + 1, 1, none⟩ = some (.string ⟨#[]⟩) := HR2.out.cell 1
  have bf1 : w2.frozen? ⟨w.heap.size + 1 + 1, 1, none⟩ = false := HR2.out.frozen 1
  have b2 : w2.cell? ⟨w.heap.size + 1 + 1, 2, none⟩ = some (.string ⟨#[]⟩) := HR2.out.cell 2
  have bf2 : w2.frozen? ⟨w.heap.size + 1 + 1, 2, none⟩ = false := HR2.out.frozen 2
  have b3 : w2.cell? ⟨w.heap.size + 1 + 1, 3, none⟩ = some (.int .i64 0) := HR2.out.cell 3
  have bf3 : w2.frozen? ⟨w.heap.size + 1 + 1, 3, none⟩ = false := HR2.out.frozen 3
  have b4 : w2.cell? ⟨w.heap.size + 1 + 1, 4, none⟩ = some (.slice none 0 0) := HR2.out.cell 4
  have bf4 : w2.frozen? ⟨w.heap.size + 1 + 1, 4, none⟩ = false := HR2.out.frozen 4
  go_wp2
  clear b0 bf0 b1 bf1 b2 bf2 b3 bf3 b4 bf4
  have k1 := HR2.out.five (.bool Gf) (.string Glo) (.string Ghi) (.int .i64 Gr) (.slice Gp Gn Gc)
  have ht : Tn [w.heap.size + 1 + 1] w2 _ := (Tn.refl _ w2).five (R := w.heap.size + 1 + 1) (.inl (by simp)) (.bool Gf) (.string Glo) (.string Ghi) (.int .i64 Gr) (.slice Gp Gn Gc)
  have hz := HB2.out.trans (ht.below HB2.out.size (by simp; omega))
  refine bodyPost_ret (results_two (T' := 24) (cs := [.bool Gf, .string Glo, .string Ghi, .int .i64 Gr, .slice Gp Gn Gc]) rfl rfl pg_agg pg_size rfl k1) rfl ?_
  exact ⟨_, rfl, (HG.out.tn ht (by have := HS.out; simp; omega)).pat, hz⟩

set_option maxHeartbeats 4000000 in
theorem rapply_2o (pf : Bool) (plo phi : ByteArray) (pr : Int) (pp : Option Addr) (pn pc : Nat) (dek : ByteArray) (des deg dec : Int) (dkey : ByteArray) (dpg : Int) (dleaf : Bool) (dlo dhi : ByteArray) (dr : Int) (dp : Option Addr) (dn dc : Nat) (w : World) (hc : ∀ W, Below w.heap.size w W → Calls Tryz.prog 27 #[.agg #[.int .i64 2, .string dek, .int .i64 des, .int .i64 deg, .int .i64 dec, .string dkey, .int .i64 dpg, .bool dleaf, .string dlo, .string dhi, .int .i64 dr, .slice dp dn dc]] W fun e w' => e = .returned (.int .i64 0) ∧ Below W.heap.size W w') (hh : ∀ W, Below w.heap.size w W → Calls Tryz.prog 23 #[.agg #[.bool pf, .string plo, .string phi, .int .i64 pr, .slice pp pn pc], .string dkey] W fun e w' => e = .returned (.bool false) ∧ Below W.heap.size W w') :
    Calls Tryz.prog 24 #[.agg #[.bool pf, .string plo, .string phi, .int .i64 pr, .slice pp pn pc], .agg #[.int .i64 2, .string dek, .int .i64 des, .int .i64 deg, .int .i64 dec, .string dkey, .int .i64 dpg, .bool dleaf, .string dlo, .string dhi, .int .i64 dr, .slice dp dn dc]] w fun e w' => ∃ v, e = .returned (.tuple #[v, .int .i64 73]) ∧ Pat w' v ⟨false, ⟨#[]⟩, ⟨#[]⟩, 0, []⟩ ∧ Below w.heap.size w w' := by
  have HH : Hid _ := hh
  clear hh
  have HC : Hid _ := hc
  clear hc
  obtain ⟨w0, hw0⟩ : ∃ w0, ((w.alloc (.cells #[.bool pf, .string plo, .string phi, .int .i64 pr, .slice pp pn pc] 24)).alloc (.cells #[.int .i64 2, .string dek, .int .i64 des, .int .i64 deg, .int .i64 dec, .string dkey, .int .i64 dpg, .bool dleaf, .string dlo, .string dhi, .int .i64 dr, .slice dp dn dc] 32)).alloc (.cells #[.bool false, .string ⟨#[]⟩, .string ⟨#[]⟩, .int .i64 0, .slice none 0 0] 24) = w0 := ⟨_, rfl⟩
  have HB0 : Hid (Below w.heap.size w w0) := by rw [← hw0]; exact (((Below.refl _ _).alloc (Nat.le_refl _) _).alloc (by simp) _).alloc (by simp; omega) _
  have HK0 : Hid (Bk w0 w.heap.size 24 #[.bool pf, .string plo, .string phi, .int .i64 pr, .slice pp pn pc]) := by rw [← hw0]; exact ((Bk.new _ _ _).alloc _).alloc _
  have HY0 : Hid (Bk w0 (w.heap.size + 1) 32 #[.int .i64 2, .string dek, .int .i64 des, .int .i64 deg, .int .i64 dec, .string dkey, .int .i64 dpg, .bool dleaf, .string dlo, .string dhi, .int .i64 dr, .slice dp dn dc]) := by rw [← hw0]; exact (Bk.new1 _ _ _ _).alloc _
  have HR0 : Hid (Bk w0 (w.heap.size + 1 + 1) 24 #[.bool false, .string ⟨#[]⟩, .string ⟨#[]⟩, .int .i64 0, .slice none 0 0]) := by rw [← hw0]; exact Bk.new2 _ _ _ _ _
  have y0 : w0.cell? ⟨w.heap.size + 1, 0, none⟩ = some (.int .i64 2) := HY0.out.cell 0
  have y1 : w0.cell? ⟨w.heap.size + 1, 1, none⟩ = some (.string dek) := HY0.out.cell 1
  have y2 : w0.cell? ⟨w.heap.size + 1, 2, none⟩ = some (.int .i64 des) := HY0.out.cell 2
  have y3 : w0.cell? ⟨w.heap.size + 1, 3, none⟩ = some (.int .i64 deg) := HY0.out.cell 3
  have y4 : w0.cell? ⟨w.heap.size + 1, 4, none⟩ = some (.int .i64 dec) := HY0.out.cell 4
  have y5 : w0.cell? ⟨w.heap.size + 1, 5, none⟩ = some (.string dkey) := HY0.out.cell 5
  have y6 : w0.cell? ⟨w.heap.size + 1, 6, none⟩ = some (.int .i64 dpg) := HY0.out.cell 6
  have y7 : w0.cell? ⟨w.heap.size + 1, 7, none⟩ = some (.bool dleaf) := HY0.out.cell 7
  have y8 : w0.cell? ⟨w.heap.size + 1, 8, none⟩ = some (.string dlo) := HY0.out.cell 8
  have y9 : w0.cell? ⟨w.heap.size + 1, 9, none⟩ = some (.string dhi) := HY0.out.cell 9
  have y10 : w0.cell? ⟨w.heap.size + 1, 10, none⟩ = some (.int .i64 dr) := HY0.out.cell 10
  have y11 : w0.cell? ⟨w.heap.size + 1, 11, none⟩ = some (.slice dp dn dc) := HY0.out.cell 11
  go_enter Tryz.func24, Tryz.ntmps24
  go_wp2_with fail
  refine (HC.out _ HB0.out).mono ?_
  rintro e w1 ⟨rfl, hb⟩
  clear y0 y1 y2 y3 y4 y5 y6 y7 y8 y9 y10 y11
  clear hw0 HC
  have HB1 : Hid (Below w.heap.size w w1) := HB0.out.trans (hb.mono HB0.out.size)
  have HK1 : Hid (Bk w1 w.heap.size 24 #[.bool pf, .string plo, .string phi, .int .i64 pr, .slice pp pn pc]) := HK0.out.below hb HK0.out.lt
  have HY1 : Hid (Bk w1 (w.heap.size + 1) 32 #[.int .i64 2, .string dek, .int .i64 des, .int .i64 deg, .int .i64 dec, .string dkey, .int .i64 dpg, .bool dleaf, .string dlo, .string dhi, .int .i64 dr, .slice dp dn dc]) := HY0.out.below hb HY0.out.lt
  have HR1 : Hid (Bk w1 (w.heap.size + 1 + 1) 24 #[.bool false, .string ⟨#[]⟩, .string ⟨#[]⟩, .int .i64 0, .slice none 0 0]) := HR0.out.below hb HR0.out.lt
  clear hb HB0 HK0 HY0 HR0
  have a0 : w1.cell? ⟨w.heap.size, 0, none⟩ = some (.bool pf) := HK1.out.cell 0
  have a1 : w1.cell? ⟨w.heap.size, 1, none⟩ = some (.string plo) := HK1.out.cell 1
  have a2 : w1.cell? ⟨w.heap.size, 2, none⟩ = some (.string phi) := HK1.out.cell 2
  have a3 : w1.cell? ⟨w.heap.size, 3, none⟩ = some (.int .i64 pr) := HK1.out.cell 3
  have a4 : w1.cell? ⟨w.heap.size, 4, none⟩ = some (.slice pp pn pc) := HK1.out.cell 4
  have y0 : w1.cell? ⟨w.heap.size + 1, 0, none⟩ = some (.int .i64 2) := HY1.out.cell 0
  have y1 : w1.cell? ⟨w.heap.size + 1, 1, none⟩ = some (.string dek) := HY1.out.cell 1
  have y2 : w1.cell? ⟨w.heap.size + 1, 2, none⟩ = some (.int .i64 des) := HY1.out.cell 2
  have y3 : w1.cell? ⟨w.heap.size + 1, 3, none⟩ = some (.int .i64 deg) := HY1.out.cell 3
  have y4 : w1.cell? ⟨w.heap.size + 1, 4, none⟩ = some (.int .i64 dec) := HY1.out.cell 4
  have y5 : w1.cell? ⟨w.heap.size + 1, 5, none⟩ = some (.string dkey) := HY1.out.cell 5
  have y6 : w1.cell? ⟨w.heap.size + 1, 6, none⟩ = some (.int .i64 dpg) := HY1.out.cell 6
  have y7 : w1.cell? ⟨w.heap.size + 1, 7, none⟩ = some (.bool dleaf) := HY1.out.cell 7
  have y8 : w1.cell? ⟨w.heap.size + 1, 8, none⟩ = some (.string dlo) := HY1.out.cell 8
  have y9 : w1.cell? ⟨w.heap.size + 1, 9, none⟩ = some (.string dhi) := HY1.out.cell 9
  have y10 : w1.cell? ⟨w.heap.size + 1, 10, none⟩ = some (.int .i64 dr) := HY1.out.cell 10
  have y11 : w1.cell? ⟨w.heap.size + 1, 11, none⟩ = some (.slice dp dn dc) := HY1.out.cell 11
  have b0 : w1.cell? ⟨w.heap.size + 1 + 1, 0, none⟩ = some (.bool false) := HR1.out.cell 0
  have bf0 : w1.frozen? ⟨w.heap.size + 1 + 1, 0, none⟩ = false := HR1.out.frozen 0
  have b1 : w1.cell? ⟨w.heap.size + 1 + 1, 1, none⟩ = some (.string ⟨#[]⟩) := HR1.out.cell 1
  have bf1 : w1.frozen? ⟨w.heap.size + 1 + 1, 1, none⟩ = false := HR1.out.frozen 1
  have b2 : w1.cell? ⟨w.heap.size + 1 + 1, 2, none⟩ = some (.string ⟨#[]⟩) := HR1.out.cell 2
  have bf2 : w1.frozen? ⟨w.heap.size + 1 + 1, 2, none⟩ = false := HR1.out.frozen 2
  have b3 : w1.cell? ⟨w.heap.size + 1 + 1, 3, none⟩ = some (.int .i64 0) := HR1.out.cell 3
  have bf3 : w1.frozen? ⟨w.heap.size + 1 + 1, 3, none⟩ = false := HR1.out.frozen 3
  have b4 : w1.cell? ⟨w.heap.size + 1 + 1, 4, none⟩ = some (.slice none 0 0) := HR1.out.cell 4
  have bf4 : w1.frozen? ⟨w.heap.size + 1 + 1, 4, none⟩ = false := HR1.out.frozen 4
  go_wp2_with fail
  refine (HH.out _ HB1.out).mono ?_
  rintro e w2 ⟨rfl, hb⟩
  clear a0 a1 a2 a3 a4
  clear y0 y1 y2 y3 y4 y5 y6 y7 y8 y9 y10 y11
  clear b0 bf0 b1 bf1 b2 bf2 b3 bf3 b4 bf4
  have HB2 : Hid (Below w.heap.size w w2) := HB1.out.trans (hb.mono HB1.out.size)
  have HK2 : Hid (Bk w2 w.heap.size 24 #[.bool pf, .string plo, .string phi, .int .i64 pr, .slice pp pn pc]) := HK1.out.below hb HK1.out.lt
  have HY2 : Hid (Bk w2 (w.heap.size + 1) 32 #[.int .i64 2, .string dek, .int .i64 des, .int .i64 deg, .int .i64 dec, .string dkey, .int .i64 dpg, .bool dleaf, .string dlo, .string dhi, .int .i64 dr, .slice dp dn dc]) := HY1.out.below hb HY1.out.lt
  have HR2 : Hid (Bk w2 (w.heap.size + 1 + 1) 24 #[.bool false, .string ⟨#[]⟩, .string ⟨#[]⟩, .int .i64 0, .slice none 0 0]) := HR1.out.below hb HR1.out.lt
  clear hb HB1 HK1 HY1 HR1
  clear HH
  have a0 : w2.cell? ⟨w.heap.size, 0, none⟩ = some (.bool pf) := HK2.out.cell 0
  have a1 : w2.cell? ⟨w.heap.size, 1, none⟩ = some (.string plo) := HK2.out.cell 1
  have a2 : w2.cell? ⟨w.heap.size, 2, none⟩ = some (.string phi) := HK2.out.cell 2
  have a3 : w2.cell? ⟨w.heap.size, 3, none⟩ = some (.int .i64 pr) := HK2.out.cell 3
  have a4 : w2.cell? ⟨w.heap.size, 4, none⟩ = some (.slice pp pn pc) := HK2.out.cell 4
  have y0 : w2.cell? ⟨w.heap.size + 1, 0, none⟩ = some (.int .i64 2) := HY2.out.cell 0
  have y1 : w2.cell? ⟨w.heap.size + 1, 1, none⟩ = some (.string dek) := HY2.out.cell 1
  have y2 : w2.cell? ⟨w.heap.size + 1, 2, none⟩ = some (.int .i64 des) := HY2.out.cell 2
  have y3 : w2.cell? ⟨w.heap.size + 1, 3, none⟩ = some (.int .i64 deg) := HY2.out.cell 3
  have y4 : w2.cell? ⟨w.heap.size + 1, 4, none⟩ = some (.int .i64 dec) := HY2.out.cell 4
  have y5 : w2.cell? ⟨w.heap.size + 1, 5, none⟩ = some (.string dkey) := HY2.out.cell 5
  have y6 : w2.cell? ⟨w.heap.size + 1, 6, none⟩ = some (.int .i64 dpg) := HY2.out.cell 6
  have y7 : w2.cell? ⟨w.heap.size + 1, 7, none⟩ = some (.bool dleaf) := HY2.out.cell 7
  have y8 : w2.cell? ⟨w.heap.size + 1, 8, none⟩ = some (.string dlo) := HY2.out.cell 8
  have y9 : w2.cell? ⟨w.heap.size + 1, 9, none⟩ = some (.string dhi) := HY2.out.cell 9
  have y10 : w2.cell? ⟨w.heap.size + 1, 10, none⟩ = some (.int .i64 dr) := HY2.out.cell 10
  have y11 : w2.cell? ⟨w.heap.size + 1, 11, none⟩ = some (.slice dp dn dc) := HY2.out.cell 11
  have b0 : w2.cell? ⟨w.heap.size + 1 + 1, 0, none⟩ = some (.bool false) := HR2.out.cell 0
  have bf0 : w2.frozen? ⟨w.heap.size + 1 + 1, 0, none⟩ = false := HR2.out.frozen 0
  have b1 : w2.cell? ⟨w.heap.size + 1 + 1, 1, none⟩ = some (.string ⟨#[]⟩) := HR2.out.cell 1
  have bf1 : w2.frozen? ⟨w.heap.size + 1 + 1, 1, none⟩ = false := HR2.out.frozen 1
  have b2 : w2.cell? ⟨w.heap.size + 1 + 1, 2, none⟩ = some (.string ⟨#[]⟩) := HR2.out.cell 2
  have bf2 : w2.frozen? ⟨w.heap.size + 1 + 1, 2, none⟩ = false := HR2.out.frozen 2
  have b3 : w2.cell? ⟨w.heap.size + 1 + 1, 3, none⟩ = some (.int .i64 0) := HR2.out.cell 3
  have bf3 : w2.frozen? ⟨w.heap.size + 1 + 1, 3, none⟩ = false := HR2.out.frozen 3
  have b4 : w2.cell? ⟨w.heap.size + 1 + 1, 4, none⟩ = some (.slice none 0 0) := HR2.out.cell 4
  have bf4 : w2.frozen? ⟨w.heap.size + 1 + 1, 4, none⟩ = false := HR2.out.frozen 4
  go_wp2
  clear a0 a1 a2 a3 a4
  clear y0 y1 y2 y3 y4 y5 y6 y7 y8 y9 y10 y11
  clear b0 bf0 b1 bf1 b2 bf2 b3 bf3 b4 bf4
  have k1 := HR2.out.five (.bool false) (.string ⟨#[]⟩) (.string ⟨#[]⟩) (.int .i64 0) (.slice none 0 0)
  have ht : Tn [w.heap.size + 1 + 1] w2 _ := (Tn.refl _ w2).five (R := w.heap.size + 1 + 1) (.inl (by simp)) (.bool false) (.string ⟨#[]⟩) (.string ⟨#[]⟩) (.int .i64 0) (.slice none 0 0)
  have hz := HB2.out.trans (ht.below HB2.out.size (by simp; omega))
  refine bodyPost_ret (results_two (T' := 24) (cs := [.bool false, .string ⟨#[]⟩, .string ⟨#[]⟩, .int .i64 0, .slice none 0 0]) rfl rfl pg_agg pg_size rfl k1) rfl ?_
  exact ⟨_, rfl, ⟨none, 0, rfl, Ens.nil _ _, fun _ => ⟨rfl, rfl⟩, Nat.le_refl _⟩, hz⟩

set_option maxHeartbeats 4000000 in
theorem rapply_2 (pf : Bool) (plo phi : ByteArray) (pr : Int) (pp : Option Addr) (pn pc : Nat) (dek : ByteArray) (des deg dec : Int) (dkey : ByteArray) (dpg : Int) (dleaf : Bool) (dlo dhi : ByteArray) (dr : Int) (dp : Option Addr) (dn dc : Nat) (w : World) (pl : List En) (hpc : (pp = none → pn = 0 ∧ pc = 0) ∧ pn ≤ pc) (hlen : pl.length = pn) (hx : Ens w pp pl) (hc : ∀ W, Below w.heap.size w W → Calls Tryz.prog 27 #[.agg #[.int .i64 2, .string dek, .int .i64 des, .int .i64 deg, .int .i64 dec, .string dkey, .int .i64 dpg, .bool dleaf, .string dlo, .string dhi, .int .i64 dr, .slice dp dn dc]] W fun e w' => e = .returned (.int .i64 0) ∧ Below W.heap.size W w') (hh : ∀ W, Below w.heap.size w W → Calls Tryz.prog 23 #[.agg #[.bool pf, .string plo, .string phi, .int .i64 pr, .slice pp pn pc], .string dkey] W fun e w' => e = .returned (.bool true) ∧ Below W.heap.size W w') (G : Pp) (kk : Int) (hq : ∀ W, Below w.heap.size w W → Calls Tryz.prog 45 #[.agg #[.bool pf, .string plo, .string phi, .int .i64 pr, .slice pp pn pc], .string dkey] W fun e w' => ∃ v, e = .returned (.tuple #[v, .int .i64 kk]) ∧ PgAt w' W.heap.size v G ∧ Below W.heap.size W w') :
    Calls Tryz.prog 24 #[.agg #[.bool pf, .string plo, .string phi, .int .i64 pr, .slice pp pn pc], .agg #[.int .i64 2, .string dek, .int .i64 des, .int .i64 deg, .int .i64 dec, .string dkey, .int .i64 dpg, .bool dleaf, .string dlo, .string dhi, .int .i64 dr, .slice dp dn dc]] w fun e w' => ∃ v, e = .returned (.tuple #[v, .int .i64 0]) ∧ Pat w' v (if kk = 0 then G else ⟨pf, plo, phi, pr, pl⟩) ∧ Below w.heap.size w w' := by
  have HPC : Hid ((pp = none → pn = 0 ∧ pc = 0) ∧ pn ≤ pc) := hpc
  clear hpc
  have HH : Hid _ := hh
  have HQ : Hid _ := hq
  have HX : Hid (Ens w pp pl) := hx
  clear hh hq hx
  have HC : Hid _ := hc
  clear hc
  obtain ⟨w0, hw0⟩ : ∃ w0, ((w.alloc (.cells #[.bool pf, .string plo, .string phi, .int .i64 pr, .slice pp pn pc] 24)).alloc (.cells #[.int .i64 2, .string dek, .int .i64 des, .int .i64 deg, .int .i64 dec, .string dkey, .int .i64 dpg, .bool dleaf, .string dlo, .string dhi, .int .i64 dr, .slice dp dn dc] 32)).alloc (.cells #[.bool false, .string ⟨#[]⟩, .string ⟨#[]⟩, .int .i64 0, .slice none 0 0] 24) = w0 := ⟨_, rfl⟩
  have HB0 : Hid (Below w.heap.size w w0) := by rw [← hw0]; exact (((Below.refl _ _).alloc (Nat.le_refl _) _).alloc (by simp) _).alloc (by simp; omega) _
  have HK0 : Hid (Bk w0 w.heap.size 24 #[.bool pf, .string plo, .string phi, .int .i64 pr, .slice pp pn pc]) := by rw [← hw0]; exact ((Bk.new _ _ _).alloc _).alloc _
  have HY0 : Hid (Bk w0 (w.heap.size + 1) 32 #[.int .i64 2, .string dek, .int .i64 des, .int .i64 deg, .int .i64 dec, .string dkey, .int .i64 dpg, .bool dleaf, .string dlo, .string dhi, .int .i64 dr, .slice dp dn dc]) := by rw [← hw0]; exact (Bk.new1 _ _ _ _).alloc _
  have HR0 : Hid (Bk w0 (w.heap.size + 1 + 1) 24 #[.bool false, .string ⟨#[]⟩, .string ⟨#[]⟩, .int .i64 0, .slice none 0 0]) := by rw [← hw0]; exact Bk.new2 _ _ _ _ _
  have y0 : w0.cell? ⟨w.heap.size + 1, 0, none⟩ = some (.int .i64 2) := HY0.out.cell 0
  have y1 : w0.cell? ⟨w.heap.size + 1, 1, none⟩ = some (.string dek) := HY0.out.cell 1
  have y2 : w0.cell? ⟨w.heap.size + 1, 2, none⟩ = some (.int .i64 des) := HY0.out.cell 2
  have y3 : w0.cell? ⟨w.heap.size + 1, 3, none⟩ = some (.int .i64 deg) := HY0.out.cell 3
  have y4 : w0.cell? ⟨w.heap.size + 1, 4, none⟩ = some (.int .i64 dec) := HY0.out.cell 4
  have y5 : w0.cell? ⟨w.heap.size + 1, 5, none⟩ = some (.string dkey) := HY0.out.cell 5
  have y6 : w0.cell? ⟨w.heap.size + 1, 6, none⟩ = some (.int .i64 dpg) := HY0.out.cell 6
  have y7 : w0.cell? ⟨w.heap.size + 1, 7, none⟩ = some (.bool dleaf) := HY0.out.cell 7
  have y8 : w0.cell? ⟨w.heap.size + 1, 8, none⟩ = some (.string dlo) := HY0.out.cell 8
  have y9 : w0.cell? ⟨w.heap.size + 1, 9, none⟩ = some (.string dhi) := HY0.out.cell 9
  have y10 : w0.cell? ⟨w.heap.size + 1, 10, none⟩ = some (.int .i64 dr) := HY0.out.cell 10
  have y11 : w0.cell? ⟨w.heap.size + 1, 11, none⟩ = some (.slice dp dn dc) := HY0.out.cell 11
  go_enter Tryz.func24, Tryz.ntmps24
  go_wp2_with fail
  refine (HC.out _ HB0.out).mono ?_
  rintro e w1 ⟨rfl, hb⟩
  clear y0 y1 y2 y3 y4 y5 y6 y7 y8 y9 y10 y11
  clear hw0 HC
  have HB1 : Hid (Below w.heap.size w w1) := HB0.out.trans (hb.mono HB0.out.size)
  have HK1 : Hid (Bk w1 w.heap.size 24 #[.bool pf, .string plo, .string phi, .int .i64 pr, .slice pp pn pc]) := HK0.out.below hb HK0.out.lt
  have HY1 : Hid (Bk w1 (w.heap.size + 1) 32 #[.int .i64 2, .string dek, .int .i64 des, .int .i64 deg, .int .i64 dec, .string dkey, .int .i64 dpg, .bool dleaf, .string dlo, .string dhi, .int .i64 dr, .slice dp dn dc]) := HY0.out.below hb HY0.out.lt
  have HR1 : Hid (Bk w1 (w.heap.size + 1 + 1) 24 #[.bool false, .string ⟨#[]⟩, .string ⟨#[]⟩, .int .i64 0, .slice none 0 0]) := HR0.out.below hb HR0.out.lt
  clear hb HB0 HK0 HY0 HR0
  have a0 : w1.cell? ⟨w.heap.size, 0, none⟩ = some (.bool pf) := HK1.out.cell 0
  have a1 : w1.cell? ⟨w.heap.size, 1, none⟩ = some (.string plo) := HK1.out.cell 1
  have a2 : w1.cell? ⟨w.heap.size, 2, none⟩ = some (.string phi) := HK1.out.cell 2
  have a3 : w1.cell? ⟨w.heap.size, 3, none⟩ = some (.int .i64 pr) := HK1.out.cell 3
  have a4 : w1.cell? ⟨w.heap.size, 4, none⟩ = some (.slice pp pn pc) := HK1.out.cell 4
  have y0 : w1.cell? ⟨w.heap.size + 1, 0, none⟩ = some (.int .i64 2) := HY1.out.cell 0
  have y1 : w1.cell? ⟨w.heap.size + 1, 1, none⟩ = some (.string dek) := HY1.out.cell 1
  have y2 : w1.cell? ⟨w.heap.size + 1, 2, none⟩ = some (.int .i64 des) := HY1.out.cell 2
  have y3 : w1.cell? ⟨w.heap.size + 1, 3, none⟩ = some (.int .i64 deg) := HY1.out.cell 3
  have y4 : w1.cell? ⟨w.heap.size + 1, 4, none⟩ = some (.int .i64 dec) := HY1.out.cell 4
  have y5 : w1.cell? ⟨w.heap.size + 1, 5, none⟩ = some (.string dkey) := HY1.out.cell 5
  have y6 : w1.cell? ⟨w.heap.size + 1, 6, none⟩ = some (.int .i64 dpg) := HY1.out.cell 6
  have y7 : w1.cell? ⟨w.heap.size + 1, 7, none⟩ = some (.bool dleaf) := HY1.out.cell 7
  have y8 : w1.cell? ⟨w.heap.size + 1, 8, none⟩ = some (.string dlo) := HY1.out.cell 8
  have y9 : w1.cell? ⟨w.heap.size + 1, 9, none⟩ = some (.string dhi) := HY1.out.cell 9
  have y10 : w1.cell? ⟨w.heap.size + 1, 10, none⟩ = some (.int .i64 dr) := HY1.out.cell 10
  have y11 : w1.cell? ⟨w.heap.size + 1, 11, none⟩ = some (.slice dp dn dc) := HY1.out.cell 11
  have b0 : w1.cell? ⟨w.heap.size + 1 + 1, 0, none⟩ = some (.bool false) := HR1.out.cell 0
  have bf0 : w1.frozen? ⟨w.heap.size + 1 + 1, 0, none⟩ = false := HR1.out.frozen 0
  have b1 : w1.cell? ⟨w.heap.size + 1 + 1, 1, none⟩ = some (.string ⟨#[]⟩) := HR1.out.cell 1
  have bf1 : w1.frozen? ⟨w.heap.size + 1 + 1, 1, none⟩ = false := HR1.out.frozen 1
  have b2 : w1.cell? ⟨w.heap.size + 1 + 1, 2, none⟩ = some (.string ⟨#[]⟩) := HR1.out.cell 2
  have bf2 : w1.frozen? ⟨w.heap.size + 1 + 1, 2, none⟩ = false := HR1.out.frozen 2
  have b3 : w1.cell? ⟨w.heap.size + 1 + 1, 3, none⟩ = some (.int .i64 0) := HR1.out.cell 3
  have bf3 : w1.frozen? ⟨w.heap.size + 1 + 1, 3, none⟩ = false := HR1.out.frozen 3
  have b4 : w1.cell? ⟨w.heap.size + 1 + 1, 4, none⟩ = some (.slice none 0 0) := HR1.out.cell 4
  have bf4 : w1.frozen? ⟨w.heap.size + 1 + 1, 4, none⟩ = false := HR1.out.frozen 4
  go_wp2_with fail
  refine (HH.out _ HB1.out).mono ?_
  rintro e w2 ⟨rfl, hb⟩
  clear a0 a1 a2 a3 a4
  clear y0 y1 y2 y3 y4 y5 y6 y7 y8 y9 y10 y11
  clear b0 bf0 b1 bf1 b2 bf2 b3 bf3 b4 bf4
  have HB2 : Hid (Below w.heap.size w w2) := HB1.out.trans (hb.mono HB1.out.size)
  have HK2 : Hid (Bk w2 w.heap.size 24 #[.bool pf, .string plo, .string phi, .int .i64 pr, .slice pp pn pc]) := HK1.out.below hb HK1.out.lt
  have HY2 : Hid (Bk w2 (w.heap.size + 1) 32 #[.int .i64 2, .string dek, .int .i64 des, .int .i64 deg, .int .i64 dec, .string dkey, .int .i64 dpg, .bool dleaf, .string dlo, .string dhi, .int .i64 dr, .slice dp dn dc]) := HY1.out.below hb HY1.out.lt
  have HR2 : Hid (Bk w2 (w.heap.size + 1 + 1) 24 #[.bool false, .string ⟨#[]⟩, .string ⟨#[]⟩, .int .i64 0, .slice none 0 0]) := HR1.out.below hb HR1.out.lt
  clear hb HB1 HK1 HY1 HR1
  clear HH
  have a0 : w2.cell? ⟨w.heap.size, 0, none⟩ = some (.bool pf) := HK2.out.cell 0
  have a1 : w2.cell? ⟨w.heap.size, 1, none⟩ = some (.string plo) := HK2.out.cell 1
  have a2 : w2.cell? ⟨w.heap.size, 2, none⟩ = some (.string phi) := HK2.out.cell 2
  have a3 : w2.cell? ⟨w.heap.size, 3, none⟩ = some (.int .i64 pr) := HK2.out.cell 3
  have a4 : w2.cell? ⟨w.heap.size, 4, none⟩ = some (.slice pp pn pc) := HK2.out.cell 4
  have y0 : w2.cell? ⟨w.heap.size + 1, 0, none⟩ = some (.int .i64 2) := HY2.out.cell 0
  have y1 : w2.cell? ⟨w.heap.size + 1, 1, none⟩ = some (.string dek) := HY2.out.cell 1
  have y2 : w2.cell? ⟨w.heap.size + 1, 2, none⟩ = some (.int .i64 des) := HY2.out.cell 2
  have y3 : w2.cell? ⟨w.heap.size + 1, 3, none⟩ = some (.int .i64 deg) := HY2.out.cell 3
  have y4 : w2.cell? ⟨w.heap.size + 1, 4, none⟩ = some (.int .i64 dec) := HY2.out.cell 4
  have y5 : w2.cell? ⟨w.heap.size + 1, 5, none⟩ = some (.string dkey) := HY2.out.cell 5
  have y6 : w2.cell? ⟨w.heap.size + 1, 6, none⟩ = some (.int .i64 dpg) := HY2.out.cell 6
  have y7 : w2.cell? ⟨w.heap.size + 1, 7, none⟩ = some (.bool dleaf) := HY2.out.cell 7
  have y8 : w2.cell? ⟨w.heap.size + 1, 8, none⟩ = some (.string dlo) := HY2.out.cell 8
  have y9 : w2.cell? ⟨w.heap.size + 1, 9, none⟩ = some (.string dhi) := HY2.out.cell 9
  have y10 : w2.cell? ⟨w.heap.size + 1, 10, none⟩ = some (.int .i64 dr) := HY2.out.cell 10
  have y11 : w2.cell? ⟨w.heap.size + 1, 11, none⟩ = some (.slice dp dn dc) := HY2.out.cell 11
  have b0 : w2.cell? ⟨w.heap.size + 1 + 1, 0, none⟩ = some (.bool false) := HR2.out.cell 0
  have bf0 : w2.frozen? ⟨w.heap.size + 1 + 1, 0, none⟩ = false := HR2.out.frozen 0
  have b1 : w2.cell? ⟨w.heap.size + 1 + 1, 1, none⟩ = some (.string ⟨#[]⟩) := HR2.out.cell 1
  have bf1 : w2.frozen? ⟨w.heap.size + 1 + 1, 1, none⟩ = false := HR2.out.frozen 1
  have b2 : w2.cell? ⟨w.heap.size + 1 + 1, 2, none⟩ = some (.string ⟨#[]⟩) := HR2.out.cell 2
  have bf2 : w2.frozen? ⟨w.heap.size + 1 + 1, 2, none⟩ = false := HR2.out.frozen 2
  have b3 : w2.cell? ⟨w.heap.size + 1 + 1, 3, none⟩ = some (.int .i64 0) := HR2.out.cell 3
  have bf3 : w2.frozen? ⟨w.heap.size + 1 + 1, 3, none⟩ = false := HR2.out.frozen 3
  have b4 : w2.cell? ⟨w.heap.size + 1 + 1, 4, none⟩ = some (.slice none 0 0) := HR2.out.cell 4
  have bf4 : w2.frozen? ⟨w.heap.size + 1 + 1, 4, none⟩ = false := HR2.out.frozen 4
  go_wp2_with fail
  refine (HQ.out _ HB2.out).mono ?_
  rintro e w3 ⟨v, rfl, hg, hb⟩
  obtain ⟨Gp, Gc, rfl, hg4⟩ := hg.pv
  obtain ⟨Gf, Glo, Ghi, Gr, Gl⟩ := G
  simp only at hg4 ⊢
  obtain ⟨Gn, hGn⟩ : ∃ Gn, Gl.length = Gn := ⟨_, rfl⟩
  rw [hGn] at hg4 ⊢
  have HG : Hid (PgAt w3 w2.heap.size (pgv Gf Glo Ghi Gr Gp Gn Gc) ⟨Gf, Glo, Ghi, Gr, Gl⟩) := hg4
  have HS : Hid (w.heap.size + 1 + 1 < w2.heap.size) := HR2.out.lt
  clear hg hg4 hGn HQ
  clear a0 a1 a2 a3 a4
  clear y0 y1 y2 y3 y4 y5 y6 y7 y8 y9 y10 y11
  clear b0 bf0 b1 bf1 b2 bf2 b3 bf3 b4 bf4
  have HB3 : Hid (Below w.heap.size w w3) := HB2.out.trans (hb.mono HB2.out.size)
  have HK3 : Hid (Bk w3 w.heap.size 24 #[.bool pf, .string plo, .string phi, .int .i64 pr, .slice pp pn pc]) := HK2.out.below hb HK2.out.lt
  have HY3 : Hid (Bk w3 (w.heap.size + 1) 32 #[.int .i64 2, .string dek, .int .i64 des, .int .i64 deg, .int .i64 dec, .string dkey, .int .i64 dpg, .bool dleaf, .string dlo, .string dhi, .int .i64 dr, .slice dp dn dc]) := HY2.out.below hb HY2.out.lt
  have HR3 : Hid (Bk w3 (w.heap.size + 1 + 1) 24 #[.bool false, .string ⟨#[]⟩, .string ⟨#[]⟩, .int .i64 0, .slice none 0 0]) := HR2.out.below hb HR2.out.lt
  clear hb HB2 HK2 HY2 HR2
  obtain ⟨w4, hw4⟩ : ∃ w4, w3.alloc (.cells #[.bool Gf, .string Glo, .string Ghi, .int .i64 Gr, .slice Gp Gn Gc] 24) = w4 := ⟨_, rfl⟩
  have hb : Below w3.heap.size w3 w4 := by rw [← hw4]; exact (Below.refl _ _).alloc (Nat.le_refl _) _
  have HG4 : Hid (Bk w4 w3.heap.size 24 #[.bool Gf, .string Glo, .string Ghi, .int .i64 Gr, .slice Gp Gn Gc]) := by rw [← hw4]; exact Bk.new _ _ _
  have HGG : Hid (PgAt w4 w2.heap.size (pgv Gf Glo Ghi Gr Gp Gn Gc) ⟨Gf, Glo, Ghi, Gr, Gl⟩) := HG.out.below hb (Nat.le_refl _)
  clear HG
  have HB4 : Hid (Below w.heap.size w w4) := HB3.out.trans (hb.mono HB3.out.size)
  have HK4 : Hid (Bk w4 w.heap.size 24 #[.bool pf, .string plo, .string phi, .int .i64 pr, .slice pp pn pc]) := HK3.out.below hb HK3.out.lt
  have HY4 : Hid (Bk w4 (w.heap.size + 1) 32 #[.int .i64 2, .string dek, .int .i64 des, .int .i64 deg, .int .i64 dec, .string dkey, .int .i64 dpg, .bool dleaf, .string dlo, .string dhi, .int .i64 dr, .slice dp dn dc]) := HY3.out.below hb HY3.out.lt
  have HR4 : Hid (Bk w4 (w.heap.size + 1 + 1) 24 #[.bool false, .string ⟨#[]⟩, .string ⟨#[]⟩, .int .i64 0, .slice none 0 0]) := HR3.out.below hb HR3.out.lt
  clear hb HB3 HK3 HY3 HR3
  have a0 : w4.cell? ⟨w.heap.size, 0, none⟩ = some (.bool pf) := HK4.out.cell 0
  have a1 : w4.cell? ⟨w.heap.size, 1, none⟩ = some (.string plo) := HK4.out.cell 1
  have a2 : w4.cell? ⟨w.heap.size, 2, none⟩ = some (.string phi) := HK4.out.cell 2
  have a3 : w4.cell? ⟨w.heap.size, 3, none⟩ = some (.int .i64 pr) := HK4.out.cell 3
  have a4 : w4.cell? ⟨w.heap.size, 4, none⟩ = some (.slice pp pn pc) := HK4.out.cell 4
  have y0 : w4.cell? ⟨w.heap.size + 1, 0, none⟩ = some (.int .i64 2) := HY4.out.cell 0
  have y1 : w4.cell? ⟨w.heap.size + 1, 1, none⟩ = some (.string dek) := HY4.out.cell 1
  have y2 : w4.cell? ⟨w.heap.size + 1, 2, none⟩ = some (.int .i64 des) := HY4.out.cell 2
  have y3 : w4.cell? ⟨w.heap.size + 1, 3, none⟩ = some (.int .i64 deg) := HY4.out.cell 3
  have y4 : w4.cell? ⟨w.heap.size + 1, 4, none⟩ = some (.int .i64 dec) := HY4.out.cell 4
  have y5 : w4.cell? ⟨w.heap.size + 1, 5, none⟩ = some (.string dkey) := HY4.out.cell 5
  have y6 : w4.cell? ⟨w.heap.size + 1, 6, none⟩ = some (.int .i64 dpg) := HY4.out.cell 6
  have y7 : w4.cell? ⟨w.heap.size + 1, 7, none⟩ = some (.bool dleaf) := HY4.out.cell 7
  have y8 : w4.cell? ⟨w.heap.size + 1, 8, none⟩ = some (.string dlo) := HY4.out.cell 8
  have y9 : w4.cell? ⟨w.heap.size + 1, 9, none⟩ = some (.string dhi) := HY4.out.cell 9
  have y10 : w4.cell? ⟨w.heap.size + 1, 10, none⟩ = some (.int .i64 dr) := HY4.out.cell 10
  have y11 : w4.cell? ⟨w.heap.size + 1, 11, none⟩ = some (.slice dp dn dc) := HY4.out.cell 11
  have b0 : w4.cell? ⟨w.heap.size + 1 + 1, 0, none⟩ = some (.bool false) := HR4.out.cell 0
  have bf0 : w4.frozen? ⟨w.heap.size + 1 + 1, 0, none⟩ = false := HR4.out.frozen 0
  have b1 : w4.cell? ⟨w.heap.size + 1 + 1, 1, none⟩ = some (.string ⟨#[]⟩) := HR4.out.cell 1
  have bf1 : w4.frozen? ⟨w.heap.size + 1 + 1, 1, none⟩ = false := HR4.out.frozen 1
  have b2 : w4.cell? ⟨w.heap.size + 1 + 1, 2, none⟩ = some (.string ⟨#[]⟩) := HR4.out.cell 2
  have bf2 : w4.frozen? ⟨w.heap.size + 1 + 1, 2, none⟩ = false := HR4.out.frozen 2
  have b3 : w4.cell? ⟨w.heap.size + 1 + 1, 3, none⟩ = some (.int .i64 0) := HR4.out.cell 3
  have bf3 : w4.frozen? ⟨w.heap.size + 1 + 1, 3, none⟩ = false := HR4.out.frozen 3
  have b4 : w4.cell? ⟨w.heap.size + 1 + 1, 4, none⟩ = some (.slice none 0 0) := HR4.out.cell 4
  have bf4 : w4.frozen? ⟨w.heap.size + 1 + 1, 4, none⟩ = false := HR4.out.frozen 4
  have g0 : w4.cell? ⟨w3.heap.size, 0, none⟩ = some (.bool Gf) := HG4.out.cell 0
  have g1 : w4.cell? ⟨w3.heap.size, 1, none⟩ = some (.string Glo) := HG4.out.cell 1
  have g2 : w4.cell? ⟨w3.heap.size, 2, none⟩ = some (.string Ghi) := HG4.out.cell 2
  have g3 : w4.cell? ⟨w3.heap.size, 3, none⟩ = some (.int .i64 Gr) := HG4.out.cell 3
  have g4 : w4.cell? ⟨w3.heap.size, 4, none⟩ = some (.slice Gp Gn Gc) := HG4.out.cell 4
  by_cases h0 : kk = 0
  · subst h0
    go_wp2
    clear hw4
    clear a0 a1 a2 a3 a4
    clear y0 y1 y2 y3 y4 y5 y6 y7 y8 y9 y10 y11
    clear b0 bf0 b1 bf1 b2 bf2 b3 bf3 b4 bf4
    clear g0 g1 g2 g3 g4
    try rw [if_pos rfl]
    have k1 := HR4.out.five (.bool Gf) (.string Glo) (.string Ghi) (.int .i64 Gr) (.slice Gp Gn Gc)
    have ht : Tn [w.heap.size + 1 + 1] w4 _ := (Tn.refl _ w4).five (R := w.heap.size + 1 + 1) (.inl (by simp)) (.bool Gf) (.string Glo) (.string Ghi) (.int .i64 Gr) (.slice Gp Gn Gc)
    have hz := HB4.out.trans (ht.below HB4.out.size (by simp; omega))
    refine bodyPost_ret (results_two (T' := 24) (cs := [.bool Gf, .string Glo, .string Ghi, .int .i64 Gr, .slice Gp Gn Gc]) rfl rfl pg_agg pg_size rfl k1) rfl ?_
    exact ⟨_, rfl, (HGG.out.tn ht (by have := HS.out; simp; omega)).pat, hz⟩
  · go_wp2
    clear hw4
    clear a0 a1 a2 a3 a4
    clear y0 y1 y2 y3 y4 y5 y6 y7 y8 y9 y10 y11
    clear b0 bf0 b1 bf1 b2 bf2 b3 bf3 b4 bf4
    clear g0 g1 g2 g3 g4
    try rw [if_neg h0]
    have k1 := HR4.out.five (.bool pf) (.string plo) (.string phi) (.int .i64 pr) (.slice pp pn pc)
    have ht : Tn [w.heap.size + 1 + 1] w4 _ := (Tn.refl _ w4).five (R := w.heap.size + 1 + 1) (.inl (by simp)) (.bool pf) (.string plo) (.string phi) (.int .i64 pr) (.slice pp pn pc)
    have hz := HB4.out.trans (ht.below HB4.out.size (by simp; omega))
    refine bodyPost_ret (results_two (T' := 24) (cs := [.bool pf, .string plo, .string phi, .int .i64 pr, .slice pp pn pc]) rfl rfl pg_agg pg_size rfl k1) rfl ?_
    exact ⟨_, rfl, ⟨_, _, by rw [hlen], HX.out.below hz (Nat.le_refl _), fun h => ⟨hlen.trans (HPC.out.1 h).1, (HPC.out.1 h).2⟩, Nat.le_trans (Nat.le_of_eq hlen) HPC.out.2⟩, hz⟩

set_option maxHeartbeats 4000000 in
theorem rapply_3l (pf : Bool) (plo phi : ByteArray) (pr : Int) (pp : Option Addr) (pn pc : Nat) (dek : ByteArray) (des deg dec : Int) (dkey : ByteArray) (dpg : Int) (dleaf : Bool) (dlo dhi : ByteArray) (dr : Int) (dp : Option Addr) (dn dc : Nat) (w : World) (hc : ∀ W, Below w.heap.size w W → Calls Tryz.prog 27 #[.agg #[.int .i64 3, .string dek, .int .i64 des, .int .i64 deg, .int .i64 dec, .string dkey, .int .i64 dpg, .bool dleaf, .string dlo, .string dhi, .int .i64 dr, .slice dp dn dc]] W fun e w' => e = .returned (.int .i64 0) ∧ Below W.heap.size W w') (hlo : Ky.lt plo dkey = false) :
    Calls Tryz.prog 24 #[.agg #[.bool pf, .string plo, .string phi, .int .i64 pr, .slice pp pn pc], .agg #[.int .i64 3, .string dek, .int .i64 des, .int .i64 deg, .int .i64 dec, .string dkey, .int .i64 dpg, .bool dleaf, .string dlo, .string dhi, .int .i64 dr, .slice dp dn dc]] w fun e w' => ∃ v, e = .returned (.tuple #[v, .int .i64 90]) ∧ Pat w' v ⟨false, ⟨#[]⟩, ⟨#[]⟩, 0, []⟩ ∧ Below w.heap.size w w' := by
  have hle : (Op.bytesLess dkey.toList plo.toList || dkey.toList == plo.toList) = true := by rw [Ky.leq_iff]; show (!Ky.lt plo dkey) = true; rw [hlo]; rfl
  clear hlo
  have HC : Hid _ := hc
  clear hc
  obtain ⟨w0, hw0⟩ : ∃ w0, ((w.alloc (.cells #[.bool pf, .string plo, .string phi, .int .i64 pr, .slice pp pn pc] 24)).alloc (.cells #[.int .i64 3, .string dek, .int .i64 des, .int .i64 deg, .int .i64 dec, .string dkey, .int .i64 dpg, .bool dleaf, .string dlo, .string dhi, .int .i64 dr, .slice dp dn dc] 32)).alloc (.cells #[.bool false, .string ⟨#[]⟩, .string ⟨#[]⟩, .int .i64 0, .slice none 0 0] 24) = w0 := ⟨_, rfl⟩
  have HB0 : Hid (Below w.heap.size w w0) := by rw [← hw0]; exact (((Below.refl _ _).alloc (Nat.le_refl _) _).alloc (by simp) _).alloc (by simp; omega) _
  have HK0 : Hid (Bk w0 w.heap.size 24 #[.bool pf, .string plo, .string phi, .int .i64 pr, .slice pp pn pc]) := by rw [← hw0]; exact ((Bk.new _ _ _).alloc _).alloc _
  have HY0 : Hid (Bk w0 (w.heap.size + 1) 32 #[.int .i64 3, .string dek, .int .i64 des, .int .i64 deg, .int .i64 dec, .string dkey, .int .i64 dpg, .bool dleaf, .string dlo, .string dhi, .int .i64 dr, .slice dp dn dc]) := by rw [← hw0]; exact (Bk.new1 _ _ _ _).alloc _
  have HR0 : Hid (Bk w0 (w.heap.size + 1 + 1) 24 #[.bool false, .string ⟨#[]⟩, .string ⟨#[]⟩, .int .i64 0, .slice none 0 0]) := by rw [← hw0]; exact Bk.new2 _ _ _ _ _
  have y0 : w0.cell? ⟨w.heap.size + 1, 0, none⟩ = some (.int .i64 3) := HY0.out.cell 0
  have y1 : w0.cell? ⟨w.heap.size + 1, 1, none⟩ = some (.string dek) := HY0.out.cell 1
  have y2 : w0.cell? ⟨w.heap.size + 1, 2, none⟩ = some (.int .i64 des) := HY0.out.cell 2
  have y3 : w0.cell? ⟨w.heap.size + 1, 3, none⟩ = some (.int .i64 deg) := HY0.out.cell 3
  have y4 : w0.cell? ⟨w.heap.size + 1, 4, none⟩ = some (.int .i64 dec) := HY0.out.cell 4
  have y5 : w0.cell? ⟨w.heap.size + 1, 5, none⟩ = some (.string dkey) := HY0.out.cell 5
  have y6 : w0.cell? ⟨w.heap.size + 1, 6, none⟩ = some (.int .i64 dpg) := HY0.out.cell 6
  have y7 : w0.cell? ⟨w.heap.size + 1, 7, none⟩ = some (.bool dleaf) := HY0.out.cell 7
  have y8 : w0.cell? ⟨w.heap.size + 1, 8, none⟩ = some (.string dlo) := HY0.out.cell 8
  have y9 : w0.cell? ⟨w.heap.size + 1, 9, none⟩ = some (.string dhi) := HY0.out.cell 9
  have y10 : w0.cell? ⟨w.heap.size + 1, 10, none⟩ = some (.int .i64 dr) := HY0.out.cell 10
  have y11 : w0.cell? ⟨w.heap.size + 1, 11, none⟩ = some (.slice dp dn dc) := HY0.out.cell 11
  go_enter Tryz.func24, Tryz.ntmps24
  go_wp2_with fail
  refine (HC.out _ HB0.out).mono ?_
  rintro e w1 ⟨rfl, hb⟩
  clear y0 y1 y2 y3 y4 y5 y6 y7 y8 y9 y10 y11
  clear hw0 HC
  have HB1 : Hid (Below w.heap.size w w1) := HB0.out.trans (hb.mono HB0.out.size)
  have HK1 : Hid (Bk w1 w.heap.size 24 #[.bool pf, .string plo, .string phi, .int .i64 pr, .slice pp pn pc]) := HK0.out.below hb HK0.out.lt
  have HY1 : Hid (Bk w1 (w.heap.size + 1) 32 #[.int .i64 3, .string dek, .int .i64 des, .int .i64 deg, .int .i64 dec, .string dkey, .int .i64 dpg, .bool dleaf, .string dlo, .string dhi, .int .i64 dr, .slice dp dn dc]) := HY0.out.below hb HY0.out.lt
  have HR1 : Hid (Bk w1 (w.heap.size + 1 + 1) 24 #[.bool false, .string ⟨#[]⟩, .string ⟨#[]⟩, .int .i64 0, .slice none 0 0]) := HR0.out.below hb HR0.out.lt
  clear hb HB0 HK0 HY0 HR0
  have a0 : w1.cell? ⟨w.heap.size, 0, none⟩ = some (.bool pf) := HK1.out.cell 0
  have a1 : w1.cell? ⟨w.heap.size, 1, none⟩ = some (.string plo) := HK1.out.cell 1
  have a2 : w1.cell? ⟨w.heap.size, 2, none⟩ = some (.string phi) := HK1.out.cell 2
  have a3 : w1.cell? ⟨w.heap.size, 3, none⟩ = some (.int .i64 pr) := HK1.out.cell 3
  have a4 : w1.cell? ⟨w.heap.size, 4, none⟩ = some (.slice pp pn pc) := HK1.out.cell 4
  have y0 : w1.cell? ⟨w.heap.size + 1, 0, none⟩ = some (.int .i64 3) := HY1.out.cell 0
  have y1 : w1.cell? ⟨w.heap.size + 1, 1, none⟩ = some (.string dek) := HY1.out.cell 1
  have y2 : w1.cell? ⟨w.heap.size + 1, 2, none⟩ = some (.int .i64 des) := HY1.out.cell 2
  have y3 : w1.cell? ⟨w.heap.size + 1, 3, none⟩ = some (.int .i64 deg) := HY1.out.cell 3
  have y4 : w1.cell? ⟨w.heap.size + 1, 4, none⟩ = some (.int .i64 dec) := HY1.out.cell 4
  have y5 : w1.cell? ⟨w.heap.size + 1, 5, none⟩ = some (.string dkey) := HY1.out.cell 5
  have y6 : w1.cell? ⟨w.heap.size + 1, 6, none⟩ = some (.int .i64 dpg) := HY1.out.cell 6
  have y7 : w1.cell? ⟨w.heap.size + 1, 7, none⟩ = some (.bool dleaf) := HY1.out.cell 7
  have y8 : w1.cell? ⟨w.heap.size + 1, 8, none⟩ = some (.string dlo) := HY1.out.cell 8
  have y9 : w1.cell? ⟨w.heap.size + 1, 9, none⟩ = some (.string dhi) := HY1.out.cell 9
  have y10 : w1.cell? ⟨w.heap.size + 1, 10, none⟩ = some (.int .i64 dr) := HY1.out.cell 10
  have y11 : w1.cell? ⟨w.heap.size + 1, 11, none⟩ = some (.slice dp dn dc) := HY1.out.cell 11
  have b0 : w1.cell? ⟨w.heap.size + 1 + 1, 0, none⟩ = some (.bool false) := HR1.out.cell 0
  have bf0 : w1.frozen? ⟨w.heap.size + 1 + 1, 0, none⟩ = false := HR1.out.frozen 0
  have b1 : w1.cell? ⟨w.heap.size + 1 + 1, 1, none⟩ = some (.string ⟨#[]⟩) := HR1.out.cell 1
  have bf1 : w1.frozen? ⟨w.heap.size + 1 + 1, 1, none⟩ = false := HR1.out.frozen 1
  have b2 : w1.cell? ⟨w.heap.size + 1 + 1, 2, none⟩ = some (.string ⟨#[]⟩) := HR1.out.cell 2
  have bf2 : w1.frozen? ⟨w.heap.size + 1 + 1, 2, none⟩ = false := HR1.out.frozen 2
  have b3 : w1.cell? ⟨w.heap.size + 1 + 1, 3, none⟩ = some (.int .i64 0) := HR1.out.cell 3
  have bf3 : w1.frozen? ⟨w.heap.size + 1 + 1, 3, none⟩ = false := HR1.out.frozen 3
  have b4 : w1.cell? ⟨w.heap.size + 1 + 1, 4, none⟩ = some (.slice none 0 0) := HR1.out.cell 4
  have bf4 : w1.frozen? ⟨w.heap.size + 1 + 1, 4, none⟩ = false := HR1.out.frozen 4
  go_wp2
  clear a0 a1 a2 a3 a4
  clear y0 y1 y2 y3 y4 y5 y6 y7 y8 y9 y10 y11
  clear b0 bf0 b1 bf1 b2 bf2 b3 bf3 b4 bf4
  have k1 := HR1.out.five (.bool false) (.string ⟨#[]⟩) (.string ⟨#[]⟩) (.int .i64 0) (.slice none 0 0)
  have ht : Tn [w.heap.size + 1 + 1] w1 _ := (Tn.refl _ w1).five (R := w.heap.size + 1 + 1) (.inl (by simp)) (.bool false) (.string ⟨#[]⟩) (.string ⟨#[]⟩) (.int .i64 0) (.slice none 0 0)
  have hz := HB1.out.trans (ht.below HB1.out.size (by simp; omega))
  refine bodyPost_ret (results_two (T' := 24) (cs := [.bool false, .string ⟨#[]⟩, .string ⟨#[]⟩, .int .i64 0, .slice none 0 0]) rfl rfl pg_agg pg_size rfl k1) rfl ?_
  exact ⟨_, rfl, ⟨none, 0, rfl, Ens.nil _ _, fun _ => ⟨rfl, rfl⟩, Nat.le_refl _⟩, hz⟩

set_option maxHeartbeats 4000000 in
theorem rapply_3o (pf : Bool) (plo phi : ByteArray) (pr : Int) (pp : Option Addr) (pn pc : Nat) (dek : ByteArray) (des deg dec : Int) (dkey : ByteArray) (dpg : Int) (dleaf : Bool) (dlo dhi : ByteArray) (dr : Int) (dp : Option Addr) (dn dc : Nat) (w : World) (hc : ∀ W, Below w.heap.size w W → Calls Tryz.prog 27 #[.agg #[.int .i64 3, .string dek, .int .i64 des, .int .i64 deg, .int .i64 dec, .string dkey, .int .i64 dpg, .bool dleaf, .string dlo, .string dhi, .int .i64 dr, .slice dp dn dc]] W fun e w' => e = .returned (.int .i64 0) ∧ Below W.heap.size W w') (hlo : Ky.lt plo dkey = true) (hh : ∀ W, Below w.heap.size w W → Calls Tryz.prog 23 #[.agg #[.bool pf, .string plo, .string phi, .int .i64 pr, .slice pp pn pc], .string dkey] W fun e w' => e = .returned (.bool false) ∧ Below W.heap.size W w') :
    Calls Tryz.prog 24 #[.agg #[.bool pf, .string plo, .string phi, .int .i64 pr, .slice pp pn pc], .agg #[.int .i64 3, .string dek, .int .i64 des, .int .i64 deg, .int .i64 dec, .string dkey, .int .i64 dpg, .bool dleaf, .string dlo, .string dhi, .int .i64 dr, .slice dp dn dc]] w fun e w' => ∃ v, e = .returned (.tuple #[v, .int .i64 90]) ∧ Pat w' v ⟨false, ⟨#[]⟩, ⟨#[]⟩, 0, []⟩ ∧ Below w.heap.size w w' := by
  have hle : (Op.bytesLess dkey.toList plo.toList || dkey.toList == plo.toList) = false := by rw [Ky.leq_iff]; show (!Ky.lt plo dkey) = false; rw [hlo]; rfl
  clear hlo
  have HH : Hid _ := hh
  clear hh
  have HC : Hid _ := hc
  clear hc
  obtain ⟨w0, hw0⟩ : ∃ w0, ((w.alloc (.cells #[.bool pf, .string plo, .string phi, .int .i64 pr, .slice pp pn pc] 24)).alloc (.cells #[.int .i64 3, .string dek, .int .i64 des, .int .i64 deg, .int .i64 dec, .string dkey, .int .i64 dpg, .bool dleaf, .string dlo, .string dhi, .int .i64 dr, .slice dp dn dc] 32)).alloc (.cells #[.bool false, .string ⟨#[]⟩, .string ⟨#[]⟩, .int .i64 0, .slice none 0 0] 24) = w0 := ⟨_, rfl⟩
  have HB0 : Hid (Below w.heap.size w w0) := by rw [← hw0]; exact (((Below.refl _ _).alloc (Nat.le_refl _) _).alloc (by simp) _).alloc (by simp; omega) _
  have HK0 : Hid (Bk w0 w.heap.size 24 #[.bool pf, .string plo, .string phi, .int .i64 pr, .slice pp pn pc]) := by rw [← hw0]; exact ((Bk.new _ _ _).alloc _).alloc _
  have HY0 : Hid (Bk w0 (w.heap.size + 1) 32 #[.int .i64 3, .string dek, .int .i64 des, .int .i64 deg, .int .i64 dec, .string dkey, .int .i64 dpg, .bool dleaf, .string dlo, .string dhi, .int .i64 dr, .slice dp dn dc]) := by rw [← hw0]; exact (Bk.new1 _ _ _ _).alloc _
  have HR0 : Hid (Bk w0 (w.heap.size + 1 + 1) 24 #[.bool false, .string ⟨#[]⟩, .string ⟨#[]⟩, .int .i64 0, .slice none 0 0]) := by rw [← hw0]; exact Bk.new2 _ _ _ _ _
  have y0 : w0.cell? ⟨w.heap.size + 1, 0, none⟩ = some (.int .i64 3) := HY0.out.cell 0
  have y1 : w0.cell? ⟨w.heap.size + 1, 1, none⟩ = some (.string dek) := HY0.out.cell 1
  have y2 : w0.cell? ⟨w.heap.size + 1, 2, none⟩ = some (.int .i64 des) := HY0.out.cell 2
  have y3 : w0.cell? ⟨w.heap.size + 1, 3, none⟩ = some (.int .i64 deg) := HY0.out.cell 3
  have y4 : w0.cell? ⟨w.heap.size + 1, 4, none⟩ = some (.int .i64 dec) := HY0.out.cell 4
  have y5 : w0.cell? ⟨w.heap.size + 1, 5, none⟩ = some (.string dkey) := HY0.out.cell 5
  have y6 : w0.cell? ⟨w.heap.size + 1, 6, none⟩ = some (.int .i64 dpg) := HY0.out.cell 6
  have y7 : w0.cell? ⟨w.heap.size + 1, 7, none⟩ = some (.bool dleaf) := HY0.out.cell 7
  have y8 : w0.cell? ⟨w.heap.size + 1, 8, none⟩ = some (.string dlo) := HY0.out.cell 8
  have y9 : w0.cell? ⟨w.heap.size + 1, 9, none⟩ = some (.string dhi) := HY0.out.cell 9
  have y10 : w0.cell? ⟨w.heap.size + 1, 10, none⟩ = some (.int .i64 dr) := HY0.out.cell 10
  have y11 : w0.cell? ⟨w.heap.size + 1, 11, none⟩ = some (.slice dp dn dc) := HY0.out.cell 11
  go_enter Tryz.func24, Tryz.ntmps24
  go_wp2_with fail
  refine (HC.out _ HB0.out).mono ?_
  rintro e w1 ⟨rfl, hb⟩
  clear y0 y1 y2 y3 y4 y5 y6 y7 y8 y9 y10 y11
  clear hw0 HC
  have HB1 : Hid (Below w.heap.size w w1) := HB0.out.trans (hb.mono HB0.out.size)
  have HK1 : Hid (Bk w1 w.heap.size 24 #[.bool pf, .string plo, .string phi, .int .i64 pr, .slice pp pn pc]) := HK0.out.below hb HK0.out.lt
  have HY1 : Hid (Bk w1 (w.heap.size + 1) 32 #[.int .i64 3, .string dek, .int .i64 des, .int .i64 deg, .int .i64 dec, .string dkey, .int .i64 dpg, .bool dleaf, .string dlo, .string dhi, .int .i64 dr, .slice dp dn dc]) := HY0.out.below hb HY0.out.lt
  have HR1 : Hid (Bk w1 (w.heap.size + 1 + 1) 24 #[.bool false, .string ⟨#[]⟩, .string ⟨#[]⟩, .int .i64 0, .slice none 0 0]) := HR0.out.below hb HR0.out.lt
  clear hb HB0 HK0 HY0 HR0
  have a0 : w1.cell? ⟨w.heap.size, 0, none⟩ = some (.bool pf) := HK1.out.cell 0
  have a1 : w1.cell? ⟨w.heap.size, 1, none⟩ = some (.string plo) := HK1.out.cell 1
  have a2 : w1.cell? ⟨w.heap.size, 2, none⟩ = some (.string phi) := HK1.out.cell 2
  have a3 : w1.cell? ⟨w.heap.size, 3, none⟩ = some (.int .i64 pr) := HK1.out.cell 3
  have a4 : w1.cell? ⟨w.heap.size, 4, none⟩ = some (.slice pp pn pc) := HK1.out.cell 4
  have y0 : w1.cell? ⟨w.heap.size + 1, 0, none⟩ = some (.int .i64 3) := HY1.out.cell 0
  have y1 : w1.cell? ⟨w.heap.size + 1, 1, none⟩ = some (.string dek) := HY1.out.cell 1
  have y2 : w1.cell? ⟨w.heap.size + 1, 2, none⟩ = some (.int .i64 des) := HY1.out.cell 2
  have y3 : w1.cell? ⟨w.heap.size + 1, 3, none⟩ = some (.int .i64 deg) := HY1.out.cell 3
  have y4 : w1.cell? ⟨w.heap.size + 1, 4, none⟩ = some (.int .i64 dec) := HY1.out.cell 4
  have y5 : w1.cell? ⟨w.heap.size + 1, 5, none⟩ = some (.string dkey) := HY1.out.cell 5
  have y6 : w1.cell? ⟨w.heap.size + 1, 6, none⟩ = some (.int .i64 dpg) := HY1.out.cell 6
  have y7 : w1.cell? ⟨w.heap.size + 1, 7, none⟩ = some (.bool dleaf) := HY1.out.cell 7
  have y8 : w1.cell? ⟨w.heap.size + 1, 8, none⟩ = some (.string dlo) := HY1.out.cell 8
  have y9 : w1.cell? ⟨w.heap.size + 1, 9, none⟩ = some (.string dhi) := HY1.out.cell 9
  have y10 : w1.cell? ⟨w.heap.size + 1, 10, none⟩ = some (.int .i64 dr) := HY1.out.cell 10
  have y11 : w1.cell? ⟨w.heap.size + 1, 11, none⟩ = some (.slice dp dn dc) := HY1.out.cell 11
  have b0 : w1.cell? ⟨w.heap.size + 1 + 1, 0, none⟩ = some (.bool false) := HR1.out.cell 0
  have bf0 : w1.frozen? ⟨w.heap.size + 1 + 1, 0, none⟩ = false := HR1.out.frozen 0
  have b1 : w1.cell? ⟨w.heap.size + 1 + 1, 1, none⟩ = some (.string ⟨#[]⟩) := HR1.out.cell 1
  have bf1 : w1.frozen? ⟨w.heap.size + 1 + 1, 1, none⟩ = false := HR1.out.frozen 1
  have b2 : w1.cell? ⟨w.heap.size + 1 + 1, 2, none⟩ = some (.string ⟨#[]⟩) := HR1.out.cell 2
  have bf2 : w1.frozen? ⟨w.heap.size + 1 + 1, 2, none⟩ = false := HR1.out.frozen 2
  have b3 : w1.cell? ⟨w.heap.size + 1 + 1, 3, none⟩ = some (.int .i64 0) := HR1.out.cell 3
  have bf3 : w1.frozen? ⟨w.heap.size + 1 + 1, 3, none⟩ = false := HR1.out.frozen 3
  have b4 : w1.cell? ⟨w.heap.size + 1 + 1, 4, none⟩ = some (.slice none 0 0) := HR1.out.cell 4
  have bf4 : w1.frozen? ⟨w.heap.size + 1 + 1, 4, none⟩ = false := HR1.out.frozen 4
  go_wp2_with fail
  refine (HH.out _ HB1.out).mono ?_
  rintro e w2 ⟨rfl, hb⟩
  clear a0 a1 a2 a3 a4
  clear y0 y1 y2 y3 y4 y5 y6 y7 y8 y9 y10 y11
  clear b0 bf0 b1 bf1 b2 bf2 b3 bf3 b4 bf4
  have HB2 : Hid (Below w.heap.size w w2) := HB1.out.trans (hb.mono HB1.out.size)
  have HK2 : Hid (Bk w2 w.heap.size 24 #[.bool pf, .string plo, .string phi, .int .i64 pr, .slice pp pn pc]) := HK1.out.below hb HK1.out.lt
  have HY2 : Hid (Bk w2 (w.heap.size + 1) 32 #[.int .i64 3, .string dek, .int .i64 des, .int .i64 deg, .int .i64 dec, .string dkey, .int .i64 dpg, .bool dleaf, .string dlo, .string dhi, .int .i64 dr, .slice dp dn dc]) := HY1.out.below hb HY1.out.lt
  have HR2 : Hid (Bk w2 (w.heap.size + 1 + 1) 24 #[.bool false, .string ⟨#[]⟩, .string ⟨#[]⟩, .int .i64 0, .slice none 0 0]) := HR1.out.below hb HR1.out.lt
  clear hb HB1 HK1 HY1 HR1
  clear HH
  have a0 : w2.cell? ⟨w.heap.size, 0, none⟩ = some (.bool pf) := HK2.out.cell 0
  have a1 : w2.cell? ⟨w.heap.size, 1, none⟩ = some (.string plo) := HK2.out.cell 1
  have a2 : w2.cell? ⟨w.heap.size, 2, none⟩ = some (.string phi) := HK2.out.cell 2
  have a3 : w2.cell? ⟨w.heap.size, 3, none⟩ = some (.int .i64 pr) := HK2.out.cell 3
  have a4 : w2.cell? ⟨w.heap.size, 4, none⟩ = some (.slice pp pn pc) := HK2.out.cell 4
  have y0 : w2.cell? ⟨w.heap.size + 1, 0, none⟩ = some (.int .i64 3) := HY2.out.cell 0
  have y1 : w2.cell? ⟨w.heap.size + 1, 1, none⟩ = some (.string dek) := HY2.out.cell 1
  have y2 : w2.cell? ⟨w.heap.size + 1, 2, none⟩ = some (.int .i64 des) := HY2.out.cell 2
  have y3 : w2.cell? ⟨w.heap.size + 1, 3, none⟩ = some (.int .i64 deg) := HY2.out.cell 3
  have y4 : w2.cell? ⟨w.heap.size + 1, 4, none⟩ = some (.int .i64 dec) := HY2.out.cell 4
  have y5 : w2.cell? ⟨w.heap.size + 1, 5, none⟩ = some (.string dkey) := HY2.out.cell 5
  have y6 : w2.cell? ⟨w.heap.size + 1, 6, none⟩ = some (.int .i64 dpg) := HY2.out.cell 6
  have y7 : w2.cell? ⟨w.heap.size + 1, 7, none⟩ = some (.bool dleaf) := HY2.out.cell 7
  have y8 : w2.cell? ⟨w.heap.size + 1, 8, none⟩ = some (.string dlo) := HY2.out.cell 8
  have y9 : w2.cell? ⟨w.heap.size + 1, 9, none⟩ = some (.string dhi) := HY2.out.cell 9
  have y10 : w2.cell? ⟨w.heap.size + 1, 10, none⟩ = some (.int .i64 dr) := HY2.out.cell 10
  have y11 : w2.cell? ⟨w.heap.size + 1, 11, none⟩ = some (.slice dp dn dc) := HY2.out.cell 11
  have b0 : w2.cell? ⟨w.heap.size + 1 + 1, 0, none⟩ = some (.bool false) := HR2.out.cell 0
  have bf0 : w2.frozen? ⟨w.heap.size + 1 + 1, 0, none⟩ = false := HR2.out.frozen 0
  have b1 : w2.cell? ⟨w.heap.size + 1 + 1, 1, none⟩ = some (.string ⟨#[]⟩) := HR2.out.cell 1
  have bf1 : w2.frozen? ⟨w.heap.size + 1 + 1, 1, none⟩ = false := HR2.out.frozen 1
  have b2 : w2.cell? ⟨w.heap.size + 1 + 1, 2, none⟩ = some (.string ⟨#[]⟩) := HR2.out.cell 2
  have bf2 : w2.frozen? ⟨w.heap.size + 1 + 1, 2, none⟩ = false := HR2.out.frozen 2
  have b3 : w2.cell? ⟨w.heap.size + 1 + 1, 3, none⟩ = some (.int .i64 0) := HR2.out.cell 3
  have bf3 : w2.frozen? ⟨w.heap.size + 1 + 1, 3, none⟩ = false := HR2.out.frozen 3
  have b4 : w2.cell? ⟨w.heap.size + 1 + 1, 4, none⟩ = some (.slice none 0 0) := HR2.out.cell 4
  have bf4 : w2.frozen? ⟨w.heap.size + 1 + 1, 4, none⟩ = false := HR2.out.frozen 4
  go_wp2
  clear a0 a1 a2 a3 a4
  clear y0 y1 y2 y3 y4 y5 y6 y7 y8 y9 y10 y11
  clear b0 bf0 b1 bf1 b2 bf2 b3 bf3 b4 bf4
  have k1 := HR2.out.five (.bool false) (.string ⟨#[]⟩) (.string ⟨#[]⟩) (.int .i64 0) (.slice none 0 0)
  have ht : Tn [w.heap.size + 1 + 1] w2 _ := (Tn.refl _ w2).five (R := w.heap.size + 1 + 1) (.inl (by simp)) (.bool false) (.string ⟨#[]⟩) (.string ⟨#[]⟩) (.int .i64 0) (.slice none 0 0)
  have hz := HB2.out.trans (ht.below HB2.out.size (by simp; omega))
  refine bodyPost_ret (results_two (T' := 24) (cs := [.bool false, .string ⟨#[]⟩, .string ⟨#[]⟩, .int .i64 0, .slice none 0 0]) rfl rfl pg_agg pg_size rfl k1) rfl ?_
  exact ⟨_, rfl, ⟨none, 0, rfl, Ens.nil _ _, fun _ => ⟨rfl, rfl⟩, Nat.le_refl _⟩, hz⟩

set_option maxHeartbeats 4000000 in
theorem rapply_3 (pf : Bool) (plo phi : ByteArray) (pr : Int) (pp : Option Addr) (pn pc : Nat) (dek : ByteArray) (des deg dec : Int) (dkey : ByteArray) (dpg : Int) (dleaf : Bool) (dlo dhi : ByteArray) (dr : Int) (dp : Option Addr) (dn dc : Nat) (w : World) (pl : List En) (hlen : pl.length = pn) (hx : Ens w pp pl) (hl : pn ≤ 3518437208780) (hc : ∀ W, Below w.heap.size w W → Calls Tryz.prog 27 #[.agg #[.int .i64 3, .string dek, .int .i64 des, .int .i64 deg, .int .i64 dec, .string dkey, .int .i64 dpg, .bool dleaf, .string dlo, .string dhi, .int .i64 dr, .slice dp dn dc]] W fun e w' => e = .returned (.int .i64 0) ∧ Below W.heap.size W w') (hlo : Ky.lt plo dkey = true) (hh : ∀ W, Below w.heap.size w W → Calls Tryz.prog 23 #[.agg #[.bool pf, .string plo, .string phi, .int .i64 pr, .slice pp pn pc], .string dkey] W fun e w' => e = .returned (.bool true) ∧ Below W.heap.size W w') :
    Calls Tryz.prog 24 #[.agg #[.bool pf, .string plo, .string phi, .int .i64 pr, .slice pp pn pc], .agg #[.int .i64 3, .string dek, .int .i64 des, .int .i64 deg, .int .i64 dec, .string dkey, .int .i64 dpg, .bool dleaf, .string dlo, .string dhi, .int .i64 dr, .slice dp dn dc]] w fun e w' => ∃ v, e = .returned (.tuple #[v, .int .i64 0]) ∧ Pat w' v ⟨pf, plo, dkey, dpg, pl.filter fun e => Ky.lt e.key dkey⟩ ∧ Below w.heap.size w w' := by
  have hle : (Op.bytesLess dkey.toList plo.toList || dkey.toList == plo.toList) = false := by rw [Ky.leq_iff]; show (!Ky.lt plo dkey) = false; rw [hlo]; rfl
  clear hlo
  have HH : Hid _ := hh
  have HX : Hid (Ens w pp pl) := hx
  clear hh hx
  have HC : Hid _ := hc
  clear hc
  obtain ⟨w0, hw0⟩ : ∃ w0, ((w.alloc (.cells #[.bool pf, .string plo, .string phi, .int .i64 pr, .slice pp pn pc] 24)).alloc (.cells #[.int .i64 3, .string dek, .int .i64 des, .int .i64 deg, .int .i64 dec, .string dkey, .int .i64 dpg, .bool dleaf, .string dlo, .string dhi, .int .i64 dr, .slice dp dn dc] 32)).alloc (.cells #[.bool false, .string ⟨#[]⟩, .string ⟨#[]⟩, .int .i64 0, .slice none 0 0] 24) = w0 := ⟨_, rfl⟩
  have HB0 : Hid (Below w.heap.size w w0) := by rw [← hw0]; exact (((Below.refl _ _).alloc (Nat.le_refl _) _).alloc (by simp) _).alloc (by simp; omega) _
  have HK0 : Hid (Bk w0 w.heap.size 24 #[.bool pf, .string plo, .string phi, .int .i64 pr, .slice pp pn pc]) := by rw [← hw0]; exact ((Bk.new _ _ _).alloc _).alloc _
  have HY0 : Hid (Bk w0 (w.heap.size + 1) 32 #[.int .i64 3, .string dek, .int .i64 des, .int .i64 deg, .int .i64 dec, .string dkey, .int .i64 dpg, .bool dleaf, .string dlo, .string dhi, .int .i64 dr, .slice dp dn dc]) := by rw [← hw0]; exact (Bk.new1 _ _ _ _).alloc _
  have HR0 : Hid (Bk w0 (w.heap.size + 1 + 1) 24 #[.bool false, .string ⟨#[]⟩, .string ⟨#[]⟩, .int .i64 0, .slice none 0 0]) := by rw [← hw0]; exact Bk.new2 _ _ _ _ _
  have y0 : w0.cell? ⟨w.heap.size + 1, 0, none⟩ = some (.int .i64 3) := HY0.out.cell 0
  have y1 : w0.cell? ⟨w.heap.size + 1, 1, none⟩ = some (.string dek) := HY0.out.cell 1
  have y2 : w0.cell? ⟨w.heap.size + 1, 2, none⟩ = some (.int .i64 des) := HY0.out.cell 2
  have y3 : w0.cell? ⟨w.heap.size + 1, 3, none⟩ = some (.int .i64 deg) := HY0.out.cell 3
  have y4 : w0.cell? ⟨w.heap.size + 1, 4, none⟩ = some (.int .i64 dec) := HY0.out.cell 4
  have y5 : w0.cell? ⟨w.heap.size + 1, 5, none⟩ = some (.string dkey) := HY0.out.cell 5
  have y6 : w0.cell? ⟨w.heap.size + 1, 6, none⟩ = some (.int .i64 dpg) := HY0.out.cell 6
  have y7 : w0.cell? ⟨w.heap.size + 1, 7, none⟩ = some (.bool dleaf) := HY0.out.cell 7
  have y8 : w0.cell? ⟨w.heap.size + 1, 8, none⟩ = some (.string dlo) := HY0.out.cell 8
  have y9 : w0.cell? ⟨w.heap.size + 1, 9, none⟩ = some (.string dhi) := HY0.out.cell 9
  have y10 : w0.cell? ⟨w.heap.size + 1, 10, none⟩ = some (.int .i64 dr) := HY0.out.cell 10
  have y11 : w0.cell? ⟨w.heap.size + 1, 11, none⟩ = some (.slice dp dn dc) := HY0.out.cell 11
  go_enter Tryz.func24, Tryz.ntmps24
  go_wp2_with fail
  refine (HC.out _ HB0.out).mono ?_
  rintro e w1 ⟨rfl, hb⟩
  clear y0 y1 y2 y3 y4 y5 y6 y7 y8 y9 y10 y11
  clear hw0 HC
  have HB1 : Hid (Below w.heap.size w w1) := HB0.out.trans (hb.mono HB0.out.size)
  have HK1 : Hid (Bk w1 w.heap.size 24 #[.bool pf, .string plo, .string phi, .int .i64 pr, .slice pp pn pc]) := HK0.out.below hb HK0.out.lt
  have HY1 : Hid (Bk w1 (w.heap.size + 1) 32 #[.int .i64 3, .string dek, .int .i64 des, .int .i64 deg, .int .i64 dec, .string dkey, .int .i64 dpg, .bool dleaf, .string dlo, .string dhi, .int .i64 dr, .slice dp dn dc]) := HY0.out.below hb HY0.out.lt
  have HR1 : Hid (Bk w1 (w.heap.size + 1 + 1) 24 #[.bool false, .string ⟨#[]⟩, .string ⟨#[]⟩, .int .i64 0, .slice none 0 0]) := HR0.out.below hb HR0.out.lt
  clear hb HB0 HK0 HY0 HR0
  have a0 : w1.cell? ⟨w.heap.size, 0, none⟩ = some (.bool pf) := HK1.out.cell 0
  have a1 : w1.cell? ⟨w.heap.size, 1, none⟩ = some (.string plo) := HK1.out.cell 1
  have a2 : w1.cell? ⟨w.heap.size, 2, none⟩ = some (.string phi) := HK1.out.cell 2
  have a3 : w1.cell? ⟨w.heap.size, 3, none⟩ = some (.int .i64 pr) := HK1.out.cell 3
  have a4 : w1.cell? ⟨w.heap.size, 4, none⟩ = some (.slice pp pn pc) := HK1.out.cell 4
  have y0 : w1.cell? ⟨w.heap.size + 1, 0, none⟩ = some (.int .i64 3) := HY1.out.cell 0
  have y1 : w1.cell? ⟨w.heap.size + 1, 1, none⟩ = some (.string dek) := HY1.out.cell 1
  have y2 : w1.cell? ⟨w.heap.size + 1, 2, none⟩ = some (.int .i64 des) := HY1.out.cell 2
  have y3 : w1.cell? ⟨w.heap.size + 1, 3, none⟩ = some (.int .i64 deg) := HY1.out.cell 3
  have y4 : w1.cell? ⟨w.heap.size + 1, 4, none⟩ = some (.int .i64 dec) := HY1.out.cell 4
  have y5 : w1.cell? ⟨w.heap.size + 1, 5, none⟩ = some (.string dkey) := HY1.out.cell 5
  have y6 : w1.cell? ⟨w.heap.size + 1, 6, none⟩ = some (.int .i64 dpg) := HY1.out.cell 6
  have y7 : w1.cell? ⟨w.heap.size + 1, 7, none⟩ = some (.bool dleaf) := HY1.out.cell 7
  have y8 : w1.cell? ⟨w.heap.size + 1, 8, none⟩ = some (.string dlo) := HY1.out.cell 8
  have y9 : w1.cell? ⟨w.heap.size + 1, 9, none⟩ = some (.string dhi) := HY1.out.cell 9
  have y10 : w1.cell? ⟨w.heap.size + 1, 10, none⟩ = some (.int .i64 dr) := HY1.out.cell 10
  have y11 : w1.cell? ⟨w.heap.size + 1, 11, none⟩ = some (.slice dp dn dc) := HY1.out.cell 11
  have b0 : w1.cell? ⟨w.heap.size + 1 + 1, 0, none⟩ = some (.bool false) := HR1.out.cell 0
  have bf0 : w1.frozen? ⟨w.heap.size + 1 + 1, 0, none⟩ = false := HR1.out.frozen 0
  have b1 : w1.cell? ⟨w.heap.size + 1 + 1, 1, none⟩ = some (.string ⟨#[]⟩) := HR1.out.cell 1
  have bf1 : w1.frozen? ⟨w.heap.size + 1 + 1, 1, none⟩ = false := HR1.out.frozen 1
  have b2 : w1.cell? ⟨w.heap.size + 1 + 1, 2, none⟩ = some (.string ⟨#[]⟩) := HR1.out.cell 2
  have bf2 : w1.frozen? ⟨w.heap.size + 1 + 1, 2, none⟩ = false := HR1.out.frozen 2
  have b3 : w1.cell? ⟨w.heap.size + 1 + 1, 3, none⟩ = some (.int .i64 0) := HR1.out.cell 3
  have bf3 : w1.frozen? ⟨w.heap.size + 1 + 1, 3, none⟩ = false := HR1.out.frozen 3
  have b4 : w1.cell? ⟨w.heap.size + 1 + 1, 4, none⟩ = some (.slice none 0 0) := HR1.out.cell 4
  have bf4 : w1.frozen? ⟨w.heap.size + 1 + 1, 4, none⟩ = false := HR1.out.frozen 4
  go_wp2_with fail
  refine (HH.out _ HB1.out).mono ?_
  rintro e w2 ⟨rfl, hb⟩
  clear a0 a1 a2 a3 a4
  clear y0 y1 y2 y3 y4 y5 y6 y7 y8 y9 y10 y11
  clear b0 bf0 b1 bf1 b2 bf2 b3 bf3 b4 bf4
  have HB2 : Hid (Below w.heap.size w w2) := HB1.out.trans (hb.mono HB1.out.size)
  have HK2 : Hid (Bk w2 w.heap.size 24 #[.bool pf, .string plo, .string phi, .int .i64 pr, .slice pp pn pc]) := HK1.out.below hb HK1.out.lt
  have HY2 : Hid (Bk w2 (w.heap.size + 1) 32 #[.int .i64 3, .string dek, .int .i64 des, .int .i64 deg, .int .i64 dec, .string dkey, .int .i64 dpg, .bool dleaf, .string dlo, .string dhi, .int .i64 dr, .slice dp dn dc]) := HY1.out.below hb HY1.out.lt
  have HR2 : Hid (Bk w2 (w.heap.size + 1 + 1) 24 #[.bool false, .string ⟨#[]⟩, .string ⟨#[]⟩, .int .i64 0, .slice none 0 0]) := HR1.out.below hb HR1.out.lt
  clear hb HB1 HK1 HY1 HR1
  clear HH
  have a0 : w2.cell? ⟨w.heap.size, 0, none⟩ = some (.bool pf) := HK2.out.cell 0
  have a1 : w2.cell? ⟨w.heap.size, 1, none⟩ = some (.string plo) := HK2.out.cell 1
  have a2 : w2.cell? ⟨w.heap.size, 2, none⟩ = some (.string phi) := HK2.out.cell 2
  have a3 : w2.cell? ⟨w.heap.size, 3, none⟩ = some (.int .i64 pr) := HK2.out.cell 3
  have a4 : w2.cell? ⟨w.heap.size, 4, none⟩ = some (.slice pp pn pc) := HK2.out.cell 4
  have y0 : w2.cell? ⟨w.heap.size + 1, 0, none⟩ = some (.int .i64 3) := HY2.out.cell 0
  have y1 : w2.cell? ⟨w.heap.size + 1, 1, none⟩ = some (.string dek) := HY2.out.cell 1
  have y2 : w2.cell? ⟨w.heap.size + 1, 2, none⟩ = some (.int .i64 des) := HY2.out.cell 2
  have y3 : w2.cell? ⟨w.heap.size + 1, 3, none⟩ = some (.int .i64 deg) := HY2.out.cell 3
  have y4 : w2.cell? ⟨w.heap.size + 1, 4, none⟩ = some (.int .i64 dec) := HY2.out.cell 4
  have y5 : w2.cell? ⟨w.heap.size + 1, 5, none⟩ = some (.string dkey) := HY2.out.cell 5
  have y6 : w2.cell? ⟨w.heap.size + 1, 6, none⟩ = some (.int .i64 dpg) := HY2.out.cell 6
  have y7 : w2.cell? ⟨w.heap.size + 1, 7, none⟩ = some (.bool dleaf) := HY2.out.cell 7
  have y8 : w2.cell? ⟨w.heap.size + 1, 8, none⟩ = some (.string dlo) := HY2.out.cell 8
  have y9 : w2.cell? ⟨w.heap.size + 1, 9, none⟩ = some (.string dhi) := HY2.out.cell 9
  have y10 : w2.cell? ⟨w.heap.size + 1, 10, none⟩ = some (.int .i64 dr) := HY2.out.cell 10
  have y11 : w2.cell? ⟨w.heap.size + 1, 11, none⟩ = some (.slice dp dn dc) := HY2.out.cell 11
  have b0 : w2.cell? ⟨w.heap.size + 1 + 1, 0, none⟩ = some (.bool false) := HR2.out.cell 0
  have bf0 : w2.frozen? ⟨w.heap.size + 1 + 1, 0, none⟩ = false := HR2.out.frozen 0
  have b1 : w2.cell? ⟨w.heap.size + 1 + 1, 1, none⟩ = some (.string ⟨#[]⟩) := HR2.out.cell 1
  have bf1 : w2.frozen? ⟨w.heap.size + 1 + 1, 1, none⟩ = false := HR2.out.frozen 1
  have b2 : w2.cell? ⟨w.heap.size + 1 + 1, 2, none⟩ = some (.string ⟨#[]⟩) := HR2.out.cell 2
  have bf2 : w2.frozen? ⟨w.heap.size + 1 + 1, 2, none⟩ = false := HR2.out.frozen 2
  have b3 : w2.cell? ⟨w.heap.size + 1 + 1, 3, none⟩ = some (.int .i64 0) := HR2.out.cell 3
  have bf3 : w2.frozen? ⟨w.heap.size + 1 + 1, 3, none⟩ = false := HR2.out.frozen 3
  have b4 : w2.cell? ⟨w.heap.size + 1 + 1, 4, none⟩ = some (.slice none 0 0) := HR2.out.cell 4
  have bf4 : w2.frozen? ⟨w.heap.size + 1 + 1, 4, none⟩ = false := HR2.out.frozen 4
  go_wp2_with fail
  clear hle
  clear a0 a1 a2 a3 a4
  clear y0 y1 y2 y3 y4 y5 y6 y7 y8 y9 y10 y11
  clear b0 bf0 b1 bf1 b2 bf2 b3 bf3 b4 bf4
  go_loopw [9, 10] (fun lv iv wr => ∃ j : Nat, j ≤ pn ∧ iv = .int .i64 j ∧ Hid (OwnE wr w2.heap.size lv ((pl.take j).filter fun e => Ky.lt e.key dkey)) ∧ Hid (Below w2.heap.size w2 wr)) (fun _ iv _ => pn - (intOf iv).toNat)
  case atStart => exact ⟨0, Nat.zero_le _, rfl, OwnE.nil _ _, Below.refl _ _⟩
  case round =>
    obtain ⟨j, hj, rfl, HO, HW⟩ := hrel
    have HKr : Hid (Bk wr w.heap.size 24 #[.bool pf, .string plo, .string phi, .int .i64 pr, .slice pp pn pc]) := HK2.out.below HW.out HK2.out.lt
    have HYr : Hid (Bk wr (w.heap.size + 1) 32 #[.int .i64 3, .string dek, .int .i64 des, .int .i64 deg, .int .i64 dec, .string dkey, .int .i64 dpg, .bool dleaf, .string dlo, .string dhi, .int .i64 dr, .slice dp dn dc]) := HY2.out.below HW.out HY2.out.lt
    have HRr : Hid (Bk wr (w.heap.size + 1 + 1) 24 #[.bool false, .string ⟨#[]⟩, .string ⟨#[]⟩, .int .i64 0, .slice none 0 0]) := HR2.out.below HW.out HR2.out.lt
    have HBr : Hid (Below w.heap.size w wr) := HB2.out.trans (HW.out.mono HB2.out.size)
    by_cases hlt : j < pn
    · have hli : (j : Int) < (pn : Int) := by omega
      have hj0 : (0 : Int) ≤ (j : Int) := by omega
      obtain ⟨b, o, x, rfl, hgx, hblt, x0, x1, x2, x3⟩ := (HX.out.below HBr.out (Nat.le_refl _)).at (j := j) (by omega)
      have a4 : wr.cell? ⟨w.heap.size, 4, none⟩ = some (.slice (some ⟨b, o, none⟩) pn pc) := HKr.out.cell 4
      have y5 : wr.cell? ⟨w.heap.size + 1, 5, none⟩ = some (.string dkey) := HYr.out.cell 5
      cases hq : Ky.lt x.key dkey with
      | true =>
        have HT : Hid (((pl.take (j + 1)).filter fun e => Ky.lt e.key dkey) = ((pl.take j).filter fun e => Ky.lt e.key dkey) ++ [x]) := by
          rw [Hid, List.take_add_one, hgx, List.filter_append]
          simp [hq]
        have hqs : Op.bytesLess x.key.toList dkey.toList = true := hq
        clear hq hgx
        go_wp2_with fail
        go_quiet (fail)
        have HWq : Hid (Below w2.heap.size w2 (wr.drewN nq)) := below_drewN HW.out nq
        have HOq : Hid (OwnE (wr.drewN nq) w2.heap.size u9 ((pl.take j).filter fun e => Ky.lt e.key dkey)) := HO.out.below (below_drewN (Below.refl _ _) nq) (Nat.le_refl _)
        have HXq : Hid (Ens (wr.drewN nq) (some ⟨b, o, none⟩) pl) := (HX.out.below HBr.out (Nat.le_refl _)).below (below_drewN (Below.refl _ _) nq) (Nat.le_refl _)
        have HKq : Hid (Bk (wr.drewN nq) w.heap.size 24 #[.bool pf, .string plo, .string phi, .int .i64 pr, .slice (some ⟨b, o, none⟩) pn pc]) := HKr.out.below (below_drewN (Below.refl _ _) nq) HKr.out.lt
        have c0 : (wr.drewN nq).cell? ⟨b, o + j * 4, none⟩ = some (.string x.key) := by rw [(below_drewN (Below.refl wr.heap.size wr) nq).cell (p := ⟨b, o + j * 4, none⟩) hblt]; exact x0
        have c1 : (wr.drewN nq).cell? ⟨b, o + j * 4 + 1, none⟩ = some (.int .i64 x.s) := by rw [(below_drewN (Below.refl wr.heap.size wr) nq).cell (p := ⟨b, o + j * 4 + 1, none⟩) hblt]; exact x1
        have c2 : (wr.drewN nq).cell? ⟨b, o + j * 4 + 2, none⟩ = some (.int .i64 x.g) := by rw [(below_drewN (Below.refl wr.heap.size wr) nq).cell (p := ⟨b, o + j * 4 + 2, none⟩) hblt]; exact x2
        have c3 : (wr.drewN nq).cell? ⟨b, o + j * 4 + 3, none⟩ = some (.int .i64 x.c) := by rw [(below_drewN (Below.refl wr.heap.size wr) nq).cell (p := ⟨b, o + j * 4 + 3, none⟩) hblt]; exact x3
        generalize wr.drewN nq = wq at HWq HOq HXq HKq c0 c1 c2 c3 ⊢
        clear a4 y5 x0 x1 x2 x3 HKr HYr HRr HBr HO HW
        have a4 : wq.cell? ⟨w.heap.size, 4, none⟩ = some (.slice (some ⟨b, o, none⟩) pn pc) := HKq.out.cell 4
        have hbA : Below w2.heap.size w2 (wq.alloc (.cells #[.string x.key, .int .i64 x.s, .int .i64 x.g, .int .i64 x.c] 30)) := HWq.out.alloc HWq.out.size _
        obtain ⟨v3, w3, hr3, ho3, hb3⟩ := app_entry (w0 := w2) (l := ((pl.take j).filter fun e => Ky.lt e.key dkey)) (e := x) (by have := List.length_filter_le (fun e => Ky.lt e.key dkey) (pl.take j); have := List.length_take_le j pl; omega) _ u9 wq.heap.size hbA (HOq.out.below ((Below.refl _ wq).alloc (Nat.le_refl _) _) (Nat.le_refl _)) (ens_one wq x)
        have HR3 : Hid _ := hr3
        have HO3 : Hid (OwnE w3 w2.heap.size v3 ((pl.take (j + 1)).filter fun e => Ky.lt e.key dkey)) := by rw [HT.out]; exact ho3
        have HW3 : Hid (Below w2.heap.size w2 w3) := hb3
        clear hr3 ho3 hb3 hbA HT hqs
        go_wp2_with (at_builtin; refine Lib.wpList_append_run _ rfl _ _ _ _ rfl _ _ rfl rfl _ _ HR3.out ?_)
        go_roundw
        case rel => exact ⟨j + 1, by omega, by go_num, HO3, HW3⟩
        case measure => simp [intOf]; omega
      | false =>
        have HT : Hid (((pl.take (j + 1)).filter fun e => Ky.lt e.key dkey) = ((pl.take j).filter fun e => Ky.lt e.key dkey)) := by
          rw [Hid, List.take_add_one, hgx, List.filter_append]
          simp [hq]
        have hqs : Op.bytesLess x.key.toList dkey.toList = false := hq
        clear hq hgx
        go_wp2_with fail
        go_quiet (fail)
        have HWq : Hid (Below w2.heap.size w2 (wr.drewN nq)) := below_drewN HW.out nq
        have HOq : Hid (OwnE (wr.drewN nq) w2.heap.size u9 ((pl.take (j + 1)).filter fun e => Ky.lt e.key dkey)) := by rw [HT.out]; exact HO.out.below (below_drewN (Below.refl _ _) nq) (Nat.le_refl _)
        clear a4 y5 x0 x1 x2 x3
        go_wp2
        go_roundw
        case rel => exact ⟨j + 1, by omega, by go_num, HOq, HWq⟩
        case measure => simp [intOf]; omega
    · have hje : pn = j := by omega
      have hni : ¬ (j : Int) < (pn : Int) := by omega
      have HOE : Hid (OwnE wr w2.heap.size u9 ((pl).filter fun e => Ky.lt e.key dkey)) := by have := HO.out; rw [List.take_of_length_le (by omega)] at this; exact this
      clear HO hlt hj
      obtain ⟨q9, c9, hv9, hq9, -⟩ := HOE.out.ens
      subst hv9
      obtain ⟨n9, hn9⟩ : ∃ n9, ((pl).filter fun e => Ky.lt e.key dkey).length = n9 := ⟨_, rfl⟩
      rw [hn9] at HOE ⊢
      have HN9 : Hid (((pl).filter fun e => Ky.lt e.key dkey).length = n9) := hn9
      have HQ9 : Hid (Ens wr q9 ((pl).filter fun e => Ky.lt e.key dkey)) := hq9
      have HS9 : Hid (w.heap.size + 1 + 1 < w2.heap.size) := HR2.out.lt
      clear hn9 hq9
      have HKd : Hid (Bk wr.drew w.heap.size 24 #[.bool pf, .string plo, .string phi, .int .i64 pr, .slice pp pn pc]) := HKr.out.drew
      have HYd : Hid (Bk wr.drew (w.heap.size + 1) 32 #[.int .i64 3, .string dek, .int .i64 des, .int .i64 deg, .int .i64 dec, .string dkey, .int .i64 dpg, .bool dleaf, .string dlo, .string dhi, .int .i64 dr, .slice dp dn dc]) := HYr.out.drew
      have HRd : Hid (Bk wr.drew (w.heap.size + 1 + 1) 24 #[.bool false, .string ⟨#[]⟩, .string ⟨#[]⟩, .int .i64 0, .slice none 0 0]) := HRr.out.drew
      have HBd : Hid (Below w.heap.size w wr.drew) := HBr.out.drew
      have HOd : Hid (OwnE wr.drew w2.heap.size (.slice q9 n9 c9) ((pl).filter fun e => Ky.lt e.key dkey)) := HOE.out.below ((Below.refl _ _).drew) (Nat.le_refl _)
      have a0 : wr.cell? ⟨w.heap.size, 0, none⟩ = some (.bool pf) := HKr.out.cell 0
      have af0 : wr.frozen? ⟨w.heap.size, 0, none⟩ = false := HKr.out.frozen 0
      have a1 : wr.cell? ⟨w.heap.size, 1, none⟩ = some (.string plo) := HKr.out.cell 1
      have af1 : wr.frozen? ⟨w.heap.size, 1, none⟩ = false := HKr.out.frozen 1
      have a2 : wr.cell? ⟨w.heap.size, 2, none⟩ = some (.string phi) := HKr.out.cell 2
      have af2 : wr.frozen? ⟨w.heap.size, 2, none⟩ = false := HKr.out.frozen 2
      have a3 : wr.cell? ⟨w.heap.size, 3, none⟩ = some (.int .i64 pr) := HKr.out.cell 3
      have af3 : wr.frozen? ⟨w.heap.size, 3, none⟩ = false := HKr.out.frozen 3
      have a4 : wr.cell? ⟨w.heap.size, 4, none⟩ = some (.slice pp pn pc) := HKr.out.cell 4
      have af4 : wr.frozen? ⟨w.heap.size, 4, none⟩ = false := HKr.out.frozen 4
      have y0 : wr.cell? ⟨w.heap.size + 1, 0, none⟩ = some (.int .i64 3) := HYr.out.cell 0
      have y1 : wr.cell? ⟨w.heap.size + 1, 1, none⟩ = some (.string dek) := HYr.out.cell 1
      have y2 : wr.cell? ⟨w.heap.size + 1, 2, none⟩ = some (.int .i64 des) := HYr.out.cell 2
      have y3 : wr.cell? ⟨w.heap.size + 1, 3, none⟩ = some (.int .i64 deg) := HYr.out.cell 3
      have y4 : wr.cell? ⟨w.heap.size + 1, 4, none⟩ = some (.int .i64 dec) := HYr.out.cell 4
      have y5 : wr.cell? ⟨w.heap.size + 1, 5, none⟩ = some (.string dkey) := HYr.out.cell 5
      have y6 : wr.cell? ⟨w.heap.size + 1, 6, none⟩ = some (.int .i64 dpg) := HYr.out.cell 6
      have y7 : wr.cell? ⟨w.heap.size + 1, 7, none⟩ = some (.bool dleaf) := HYr.out.cell 7
      have y8 : wr.cell? ⟨w.heap.size + 1, 8, none⟩ = some (.string dlo) := HYr.out.cell 8
      have y9 : wr.cell? ⟨w.heap.size + 1, 9, none⟩ = some (.string dhi) := HYr.out.cell 9
      have y10 : wr.cell? ⟨w.heap.size + 1, 10, none⟩ = some (.int .i64 dr) := HYr.out.cell 10
      have y11 : wr.cell? ⟨w.heap.size + 1, 11, none⟩ = some (.slice dp dn dc) := HYr.out.cell 11
      have b0 : wr.cell? ⟨w.heap.size + 1 + 1, 0, none⟩ = some (.bool false) := HRr.out.cell 0
      have bf0 : wr.frozen? ⟨w.heap.size + 1 + 1, 0, none⟩ = false := HRr.out.frozen 0
      have b1 : wr.cell? ⟨w.heap.size + 1 + 1, 1, none⟩ = some (.string ⟨#[]⟩) := HRr.out.cell 1
      have bf1 : wr.frozen? ⟨w.heap.size + 1 + 1, 1, none⟩ = false := HRr.out.frozen 1
      have b2 : wr.cell? ⟨w.heap.size + 1 + 1, 2, none⟩ = some (.string ⟨#[]⟩) := HRr.out.cell 2
      have bf2 : wr.frozen? ⟨w.heap.size + 1 + 1, 2, none⟩ = false := HRr.out.frozen 2
      have b3 : wr.cell? ⟨w.heap.size + 1 + 1, 3, none⟩ = some (.int .i64 0) := HRr.out.cell 3
      have bf3 : wr.frozen? ⟨w.heap.size + 1 + 1, 3, none⟩ = false := HRr.out.frozen 3
      have b4 : wr.cell? ⟨w.heap.size + 1 + 1, 4, none⟩ = some (.slice none 0 0) := HRr.out.cell 4
      have bf4 : wr.frozen? ⟨w.heap.size + 1 + 1, 4, none⟩ = false := HRr.out.frozen 4
      go_wp2_with fail
      go_region
      go_wp2
      clear a0 af0 a1 af1 a2 af2 a3 af3 a4 af4
      clear y0 y1 y2 y3 y4 y5 y6 y7 y8 y9 y10 y11
      clear b0 bf0 b1 bf1 b2 bf2 b3 bf3 b4 bf4
      have k1 := ((((HRr.out.other (p := ⟨w.heap.size, 4, none⟩) (by simp; try omega) (.slice q9 n9 c9)).other (p := ⟨w.heap.size, 2, none⟩) (by simp; try omega) (.string dkey)).other (p := ⟨w.heap.size, 3, none⟩) (by simp; try omega) (.int .i64 dpg)).five (.bool pf) (.string plo) (.string dkey) (.int .i64 dpg) (.slice q9 n9 c9)).drew
      have ht : Tn [w.heap.size, w.heap.size + 1 + 1] wr _ := ((((Tn.refl _ wr).setCell (p := ⟨w.heap.size, 4, none⟩) (.inl (by simp)) (.slice q9 n9 c9)).setCell (p := ⟨w.heap.size, 2, none⟩) (.inl (by simp)) (.string dkey)).setCell (p := ⟨w.heap.size, 3, none⟩) (.inl (by simp)) (.int .i64 dpg)).five (R := w.heap.size + 1 + 1) (.inl (by simp)) (.bool pf) (.string plo) (.string dkey) (.int .i64 dpg) (.slice q9 n9 c9)
      have hz := (HBr.out.trans (ht.below HBr.out.size (by simp; try omega))).drew
      have he := ((HOE.out.tn ht (by have := HS9.out; simp; omega)).below ((Below.refl _ _).drew) (Nat.le_refl _)).down
      refine bodyPost_ret (results_two (T' := 24) (cs := [.bool pf, .string plo, .string dkey, .int .i64 dpg, .slice q9 n9 c9]) rfl rfl pg_agg pg_size rfl k1) rfl ?_
      exact ⟨_, rfl, ⟨q9, c9, by rw [HN9.out], he, HOE.out.nl.1, HOE.out.nl.2⟩, hz⟩

set_option maxHeartbeats 4000000 in
theorem rapply_4 (pf : Bool) (plo phi : ByteArray) (pr : Int) (pp : Option Addr) (pn pc : Nat) (dek : ByteArray) (des deg dec : Int) (dkey : ByteArray) (dpg : Int) (dleaf : Bool) (dlo dhi : ByteArray) (dr : Int) (dp : Option Addr) (dn dc : Nat) (w : World) (hc : ∀ W, Below w.heap.size w W → Calls Tryz.prog 27 #[.agg #[.int .i64 4, .string dek, .int .i64 des, .int .i64 deg, .int .i64 dec, .string dkey, .int .i64 dpg, .bool dleaf, .string dlo, .string dhi, .int .i64 dr, .slice dp dn dc]] W fun e w' => e = .returned (.int .i64 0) ∧ Below W.heap.size W w') (G : Pp) (kk : Int) (hq : ∀ W, Below w.heap.size w W → Calls Tryz.prog 46 #[.agg #[.bool pf, .string plo, .string phi, .int .i64 pr, .slice pp pn pc], .agg #[.bool dleaf, .string dlo, .string dhi, .int .i64 dr, .slice dp dn dc]] W fun e w' => ∃ v, e = .returned (.tuple #[v, .int .i64 kk]) ∧ PgAt w' W.heap.size v G ∧ Below W.heap.size W w') :
    Calls Tryz.prog 24 #[.agg #[.bool pf, .string plo, .string phi, .int .i64 pr, .slice pp pn pc], .agg #[.int .i64 4, .string dek, .int .i64 des, .int .i64 deg, .int .i64 dec, .string dkey, .int .i64 dpg, .bool dleaf, .string dlo, .string dhi, .int .i64 dr, .slice dp dn dc]] w fun e w' => ∃ v, e = .returned (.tuple #[v, .int .i64 kk]) ∧ Pat w' v G ∧ Below w.heap.size w w' := by
  have HQ : Hid _ := hq
  clear hq
  have HC : Hid _ := hc
  clear hc
  obtain ⟨w0, hw0⟩ : ∃ w0, ((w.alloc (.cells #[.bool pf, .string plo, .string phi, .int .i64 pr, .slice pp pn pc] 24)).alloc (.cells #[.int .i64 4, .string dek, .int .i64 des, .int .i64 deg, .int .i64 dec, .string dkey, .int .i64 dpg, .bool dleaf, .string dlo, .string dhi, .int .i64 dr, .slice dp dn dc] 32)).alloc (.cells #[.bool false, .string ⟨#[]⟩, .string ⟨#[]⟩, .int .i64 0, .slice none 0 0] 24) = w0 := ⟨_, rfl⟩
  have HB0 : Hid (Below w.heap.size w w0) := by rw [← hw0]; exact (((Below.refl _ _).alloc (Nat.le_refl _) _).alloc (by simp) _).alloc (by simp; omega) _
  have HK0 : Hid (Bk w0 w.heap.size 24 #[.bool pf, .string plo, .string phi, .int .i64 pr, .slice pp pn pc]) := by rw [← hw0]; exact ((Bk.new _ _ _).alloc _).alloc _
  have HY0 : Hid (Bk w0 (w.heap.size + 1) 32 #[.int .i64 4, .string dek, .int .i64 des, .int .i64 deg, .int .i64 dec, .string dkey, .int .i64 dpg, .bool dleaf, .string dlo, .string dhi, .int .i64 dr, .slice dp dn dc]) := by rw [← hw0]; exact (Bk.new1 _ _ _ _).alloc _
  have HR0 : Hid (Bk w0 (w.heap.size + 1 + 1) 24 #[.bool false, .string ⟨#[]⟩, .string ⟨#[]⟩, .int .i64 0, .slice none 0 0]) := by rw [← hw0]; exact Bk.new2 _ _ _ _ _
  have y0 : w0.cell? ⟨w.heap.size + 1, 0, none⟩ = some (.int .i64 4) := HY0.out.cell 0
  have y1 : w0.cell? ⟨w.heap.size + 1, 1, none⟩ = some (.string dek) := HY0.out.cell 1
  have y2 : w0.cell? ⟨w.heap.size + 1, 2, none⟩ = some (.int .i64 des) := HY0.out.cell 2
  have y3 : w0.cell? ⟨w.heap.size + 1, 3, none⟩ = some (.int .i64 deg) := HY0.out.cell 3
  have y4 : w0.cell? ⟨w.heap.size + 1, 4, none⟩ = some (.int .i64 dec) := HY0.out.cell 4
  have y5 : w0.cell? ⟨w.heap.size + 1, 5, none⟩ = some (.string dkey) := HY0.out.cell 5
  have y6 : w0.cell? ⟨w.heap.size + 1, 6, none⟩ = some (.int .i64 dpg) := HY0.out.cell 6
  have y7 : w0.cell? ⟨w.heap.size + 1, 7, none⟩ = some (.bool dleaf) := HY0.out.cell 7
  have y8 : w0.cell? ⟨w.heap.size + 1, 8, none⟩ = some (.string dlo) := HY0.out.cell 8
  have y9 : w0.cell? ⟨w.heap.size + 1, 9, none⟩ = some (.string dhi) := HY0.out.cell 9
  have y10 : w0.cell? ⟨w.heap.size + 1, 10, none⟩ = some (.int .i64 dr) := HY0.out.cell 10
  have y11 : w0.cell? ⟨w.heap.size + 1, 11, none⟩ = some (.slice dp dn dc) := HY0.out.cell 11
  go_enter Tryz.func24, Tryz.ntmps24
  go_wp2_with fail
  refine (HC.out _ HB0.out).mono ?_
  rintro e w1 ⟨rfl, hb⟩
  clear y0 y1 y2 y3 y4 y5 y6 y7 y8 y9 y10 y11
  clear hw0 HC
  have HB1 : Hid (Below w.heap.size w w1) := HB0.out.trans (hb.mono HB0.out.size)
  have HK1 : Hid (Bk w1 w.heap.size 24 #[.bool pf, .string plo, .string phi, .int .i64 pr, .slice pp pn pc]) := HK0.out.below hb HK0.out.lt
  have HY1 : Hid (Bk w1 (w.heap.size + 1) 32 #[.int .i64 4, .string dek, .int .i64 des, .int .i64 deg, .int .i64 dec, .string dkey, .int .i64 dpg, .bool dleaf, .string dlo, .string dhi, .int .i64 dr, .slice dp dn dc]) := HY0.out.below hb HY0.out.lt
  have HR1 : Hid (Bk w1 (w.heap.size + 1 + 1) 24 #[.bool false, .string ⟨#[]⟩, .string ⟨#[]⟩, .int .i64 0, .slice none 0 0]) := HR0.out.below hb HR0.out.lt
  clear hb HB0 HK0 HY0 HR0
  have a0 : w1.cell? ⟨w.heap.size, 0, none⟩ = some (.bool pf) := HK1.out.cell 0
  have a1 : w1.cell? ⟨w.heap.size, 1, none⟩ = some (.string plo) := HK1.out.cell 1
  have a2 : w1.cell? ⟨w.heap.size, 2, none⟩ = some (.string phi) := HK1.out.cell 2
  have a3 : w1.cell? ⟨w.heap.size, 3, none⟩ = some (.int .i64 pr) := HK1.out.cell 3
  have a4 : w1.cell? ⟨w.heap.size, 4, none⟩ = some (.slice pp pn pc) := HK1.out.cell 4
  have y0 : w1.cell? ⟨w.heap.size + 1, 0, none⟩ = some (.int .i64 4) := HY1.out.cell 0
  have y1 : w1.cell? ⟨w.heap.size + 1, 1, none⟩ = some (.string dek) := HY1.out.cell 1
  have y2 : w1.cell? ⟨w.heap.size + 1, 2, none⟩ = some (.int .i64 des) := HY1.out.cell 2
  have y3 : w1.cell? ⟨w.heap.size + 1, 3, none⟩ = some (.int .i64 deg) := HY1.out.cell 3
  have y4 : w1.cell? ⟨w.heap.size + 1, 4, none⟩ = some (.int .i64 dec) := HY1.out.cell 4
  have y5 : w1.cell? ⟨w.heap.size + 1, 5, none⟩ = some (.string dkey) := HY1.out.cell 5
  have y6 : w1.cell? ⟨w.heap.size + 1, 6, none⟩ = some (.int .i64 dpg) := HY1.out.cell 6
  have y7 : w1.cell? ⟨w.heap.size + 1, 7, none⟩ = some (.bool dleaf) := HY1.out.cell 7
  have y8 : w1.cell? ⟨w.heap.size + 1, 8, none⟩ = some (.string dlo) := HY1.out.cell 8
  have y9 : w1.cell? ⟨w.heap.size + 1, 9, none⟩ = some (.string dhi) := HY1.out.cell 9
  have y10 : w1.cell? ⟨w.heap.size + 1, 10, none⟩ = some (.int .i64 dr) := HY1.out.cell 10
  have y11 : w1.cell? ⟨w.heap.size + 1, 11, none⟩ = some (.slice dp dn dc) := HY1.out.cell 11
  have b0 : w1.cell? ⟨w.heap.size + 1 + 1, 0, none⟩ = some (.bool false) := HR1.out.cell 0
  have bf0 : w1.frozen? ⟨w.heap.size + 1 + 1, 0, none⟩ = false := HR1.out.frozen 0
  have b1 : w1.cell? ⟨w.heap.size + 1 + 1, 1, none⟩ = some (.string ⟨#[]⟩) := HR1.out.cell 1
  have bf1 : w1.frozen? ⟨w.heap.size + 1 + 1, 1, none⟩ = false := HR1.out.frozen 1
  have b2 : w1.cell? ⟨w.heap.size + 1 + 1, 2, none⟩ = some (.string ⟨#[]⟩) := HR1.out.cell 2
  have bf2 : w1.frozen? ⟨w.heap.size + 1 + 1, 2, none⟩ = false := HR1.out.frozen 2
  have b3 : w1.cell? ⟨w.heap.size + 1 + 1, 3, none⟩ = some (.int .i64 0) := HR1.out.cell 3
  have bf3 : w1.frozen? ⟨w.heap.size + 1 + 1, 3, none⟩ = false := HR1.out.frozen 3
  have b4 : w1.cell? ⟨w.heap.size + 1 + 1, 4, none⟩ = some (.slice none 0 0) := HR1.out.cell 4
  have bf4 : w1.frozen? ⟨w.heap.size + 1 + 1, 4, none⟩ = false := HR1.out.frozen 4
  go_wp2_with fail
  refine (HQ.out _ HB1.out).mono ?_
  rintro e w2 ⟨v, rfl, hg, hb⟩
  obtain ⟨Gp, Gc, rfl, hg4⟩ := hg.pv
  obtain ⟨Gf, Glo, Ghi, Gr, Gl⟩ := G
  simp only at hg4 ⊢
  obtain ⟨Gn, hGn⟩ : ∃ Gn, Gl.length = Gn := ⟨_, rfl⟩
  rw [hGn] at hg4 ⊢
  have HG : Hid (PgAt w2 w1.heap.size (pgv Gf Glo Ghi Gr Gp Gn Gc) ⟨Gf, Glo, Ghi, Gr, Gl⟩) := hg4
  have HS : Hid (w.heap.size + 1 + 1 < w1.heap.size) := HR1.out.lt
  clear hg hg4 hGn HQ
  clear a0 a1 a2 a3 a4
  clear y0 y1 y2 y3 y4 y5 y6 y7 y8 y9 y10 y11
  clear b0 bf0 b1 bf1 b2 bf2 b3 bf3 b4 bf4
  have HB2 : Hid (Below w.heap.size w w2) := HB1.out.trans (hb.mono HB1.out.size)
  have HK2 : Hid (Bk w2 w.heap.size 24 #[.bool pf, .string plo, .string phi, .int .i64 pr, .slice pp pn pc]) := HK1.out.below hb HK1.out.lt
  have HY2 : Hid (Bk w2 (w.heap.size + 1) 32 #[.int .i64 4, .string dek, .int .i64 des, .int .i64 deg, .int .i64 dec, .string dkey, .int .i64 dpg, .bool dleaf, .string dlo, .string dhi, .int .i64 dr, .slice dp dn dc]) := HY1.out.below hb HY1.out.lt
  have HR2 : Hid (Bk w2 (w.heap.size + 1 + 1) 24 #[.bool false, .string ⟨#[]⟩, .string ⟨#[]⟩, .int .i64 0, .slice none 0 0]) := HR1.out.below hb HR1.out.lt
  clear hb HB1 HK1 HY1 HR1
  have b0 : w2.cell? ⟨w.heap.size + 1 + 1, 0, none⟩ = some (.bool false) := HR2.out.cell 0
  have bf0 : w2.frozen? ⟨w.heap.size + 1 + 1, 0, none⟩ = false := HR2.out.frozen 0
  have b1 : w2.cell? ⟨w.heap.size + 1 + 1, 1, none⟩ = some (.string ⟨#[]⟩) := HR2.out.cell 1
  have bf1 : w2.frozen? ⟨w.heap.size + 1 + 1, 1, none⟩ = false := HR2.out.frozen 1
  have b2 : w2.cell? ⟨w.heap.size + 1 + 1, 2, none⟩ = some (.string ⟨#[]⟩) := HR2.out.cell 2
  have bf2 : w2.frozen? ⟨w.heap.size + 1 + 1, 2, none⟩ = false := HR2.out.frozen 2
  have b3 : w2.cell? ⟨w.heap.size + 1 + 1, 3, none⟩ = some (.int .i64 0) := HR2.out.cell 3
  have bf3 : w2.frozen? ⟨w.heap.size + 1 + 1, 3, none⟩ = false := HR2.out.frozen 3
  have b4 : w2.cell? ⟨w.heap.size + 1 + 1, 4, none⟩ = some (.slice none 0 0) := HR2.out.cell 4
  have bf4 : w2.frozen? ⟨w.heap.size + 1 + 1, 4, none⟩ = false := HR2.out.frozen 4
  go_wp2
  clear b0 bf0 b1 bf1 b2 bf2 b3 bf3 b4 bf4
  have k1 := HR2.out.five (.bool Gf) (.string Glo) (.string Ghi) (.int .i64 Gr) (.slice Gp Gn Gc)
  have ht : Tn [w.heap.size + 1 + 1] w2 _ := (Tn.refl _ w2).five (R := w.heap.size + 1 + 1) (.inl (by simp)) (.bool Gf) (.string Glo) (.string Ghi) (.int .i64 Gr) (.slice Gp Gn Gc)
  have hz := HB2.out.trans (ht.below HB2.out.size (by simp; omega))
  refine bodyPost_ret (results_two (T' := 24) (cs := [.bool Gf, .string Glo, .string Ghi, .int .i64 Gr, .slice Gp Gn Gc]) rfl rfl pg_agg pg_size rfl k1) rfl ?_
  exact ⟨_, rfl, (HG.out.tn ht (by have := HS.out; simp; omega)).pat, hz⟩

set_option maxHeartbeats 4000000 in
theorem rapply_5 (pf : Bool) (plo phi : ByteArray) (pr : Int) (pp : Option Addr) (pn pc : Nat) (dek : ByteArray) (des deg dec : Int) (dkey : ByteArray) (dpg : Int) (dleaf : Bool) (dlo dhi : ByteArray) (dr : Int) (dp : Option Addr) (dn dc : Nat) (w : World) (hc : ∀ W, Below w.heap.size w W → Calls Tryz.prog 27 #[.agg #[.int .i64 5, .string dek, .int .i64 des, .int .i64 deg, .int .i64 dec, .string dkey, .int .i64 dpg, .bool dleaf, .string dlo, .string dhi, .int .i64 dr, .slice dp dn dc]] W fun e w' => e = .returned (.int .i64 0) ∧ Below W.heap.size W w') :
    Calls Tryz.prog 24 #[.agg #[.bool pf, .string plo, .string phi, .int .i64 pr, .slice pp pn pc], .agg #[.int .i64 5, .string dek, .int .i64 des, .int .i64 deg, .int .i64 dec, .string dkey, .int .i64 dpg, .bool dleaf, .string dlo, .string dhi, .int .i64 dr, .slice dp dn dc]] w fun e w' => ∃ v, e = .returned (.tuple #[v, .int .i64 91]) ∧ Pat w' v ⟨false, ⟨#[]⟩, ⟨#[]⟩, 0, []⟩ ∧ Below w.heap.size w w' := by
  have HC : Hid _ := hc
  clear hc
  obtain ⟨w0, hw0⟩ : ∃ w0, ((w.alloc (.cells #[.bool pf, .string plo, .string phi, .int .i64 pr, .slice pp pn pc] 24)).alloc (.cells #[.int .i64 5, .string dek, .int .i64 des, .int .i64 deg, .int .i64 dec, .string dkey, .int .i64 dpg, .bool dleaf, .string dlo, .string dhi, .int .i64 dr, .slice dp dn dc] 32)).alloc (.cells #[.bool false, .string ⟨#[]⟩, .string ⟨#[]⟩, .int .i64 0, .slice none 0 0] 24) = w0 := ⟨_, rfl⟩
  have HB0 : Hid (Below w.heap.size w w0) := by rw [← hw0]; exact (((Below.refl _ _).alloc (Nat.le_refl _) _).alloc (by simp) _).alloc (by simp; omega) _
  have HK0 : Hid (Bk w0 w.heap.size 24 #[.bool pf, .string plo, .string phi, .int .i64 pr, .slice pp pn pc]) := by rw [← hw0]; exact ((Bk.new _ _ _).alloc _).alloc _
  have HY0 : Hid (Bk w0 (w.heap.size + 1) 32 #[.int .i64 5, .string dek, .int .i64 des, .int .i64 deg, .int .i64 dec, .string dkey, .int .i64 dpg, .bool dleaf, .string dlo, .string dhi, .int .i64 dr, .slice dp dn dc]) := by rw [← hw0]; exact (Bk.new1 _ _ _ _).alloc _
  have HR0 : Hid (Bk w0 (w.heap.size + 1 + 1) 24 #[.bool false, .string ⟨#[]⟩, .string ⟨#[]⟩, .int .i64 0, .slice none 0 0]) := by rw [← hw0]; exact Bk.new2 _ _ _ _ _
  have y0 : w0.cell? ⟨w.heap.size + 1, 0, none⟩ = some (.int .i64 5) := HY0.out.cell 0
  have y1 : w0.cell? ⟨w.heap.size + 1, 1, none⟩ = some (.string dek) := HY0.out.cell 1
  have y2 : w0.cell? ⟨w.heap.size + 1, 2, none⟩ = some (.int .i64 des) := HY0.out.cell 2
  have y3 : w0.cell? ⟨w.heap.size + 1, 3, none⟩ = some (.int .i64 deg) := HY0.out.cell 3
  have y4 : w0.cell? ⟨w.heap.size + 1, 4, none⟩ = some (.int .i64 dec) := HY0.out.cell 4
  have y5 : w0.cell? ⟨w.heap.size + 1, 5, none⟩ = some (.string dkey) := HY0.out.cell 5
  have y6 : w0.cell? ⟨w.heap.size + 1, 6, none⟩ = some (.int .i64 dpg) := HY0.out.cell 6
  have y7 : w0.cell? ⟨w.heap.size + 1, 7, none⟩ = some (.bool dleaf) := HY0.out.cell 7
  have y8 : w0.cell? ⟨w.heap.size + 1, 8, none⟩ = some (.string dlo) := HY0.out.cell 8
  have y9 : w0.cell? ⟨w.heap.size + 1, 9, none⟩ = some (.string dhi) := HY0.out.cell 9
  have y10 : w0.cell? ⟨w.heap.size + 1, 10, none⟩ = some (.int .i64 dr) := HY0.out.cell 10
  have y11 : w0.cell? ⟨w.heap.size + 1, 11, none⟩ = some (.slice dp dn dc) := HY0.out.cell 11
  go_enter Tryz.func24, Tryz.ntmps24
  go_wp2_with fail
  refine (HC.out _ HB0.out).mono ?_
  rintro e w1 ⟨rfl, hb⟩
  clear y0 y1 y2 y3 y4 y5 y6 y7 y8 y9 y10 y11
  clear hw0 HC
  have HB1 : Hid (Below w.heap.size w w1) := HB0.out.trans (hb.mono HB0.out.size)
  have HK1 : Hid (Bk w1 w.heap.size 24 #[.bool pf, .string plo, .string phi, .int .i64 pr, .slice pp pn pc]) := HK0.out.below hb HK0.out.lt
  have HY1 : Hid (Bk w1 (w.heap.size + 1) 32 #[.int .i64 5, .string dek, .int .i64 des, .int .i64 deg, .int .i64 dec, .string dkey, .int .i64 dpg, .bool dleaf, .string dlo, .string dhi, .int .i64 dr, .slice dp dn dc]) := HY0.out.below hb HY0.out.lt
  have HR1 : Hid (Bk w1 (w.heap.size + 1 + 1) 24 #[.bool false, .string ⟨#[]⟩, .string ⟨#[]⟩, .int .i64 0, .slice none 0 0]) := HR0.out.below hb HR0.out.lt
  clear hb HB0 HK0 HY0 HR0
  have a0 : w1.cell? ⟨w.heap.size, 0, none⟩ = some (.bool pf) := HK1.out.cell 0
  have a1 : w1.cell? ⟨w.heap.size, 1, none⟩ = some (.string plo) := HK1.out.cell 1
  have a2 : w1.cell? ⟨w.heap.size, 2, none⟩ = some (.string phi) := HK1.out.cell 2
  have a3 : w1.cell? ⟨w.heap.size, 3, none⟩ = some (.int .i64 pr) := HK1.out.cell 3
  have a4 : w1.cell? ⟨w.heap.size, 4, none⟩ = some (.slice pp pn pc) := HK1.out.cell 4
  have y0 : w1.cell? ⟨w.heap.size + 1, 0, none⟩ = some (.int .i64 5) := HY1.out.cell 0
  have y1 : w1.cell? ⟨w.heap.size + 1, 1, none⟩ = some (.string dek) := HY1.out.cell 1
  have y2 : w1.cell? ⟨w.heap.size + 1, 2, none⟩ = some (.int .i64 des) := HY1.out.cell 2
  have y3 : w1.cell? ⟨w.heap.size + 1, 3, none⟩ = some (.int .i64 deg) := HY1.out.cell 3
  have y4 : w1.cell? ⟨w.heap.size + 1, 4, none⟩ = some (.int .i64 dec) := HY1.out.cell 4
  have y5 : w1.cell? ⟨w.heap.size + 1, 5, none⟩ = some (.string dkey) := HY1.out.cell 5
  have y6 : w1.cell? ⟨w.heap.size + 1, 6, none⟩ = some (.int .i64 dpg) := HY1.out.cell 6
  have y7 : w1.cell? ⟨w.heap.size + 1, 7, none⟩ = some (.bool dleaf) := HY1.out.cell 7
  have y8 : w1.cell? ⟨w.heap.size + 1, 8, none⟩ = some (.string dlo) := HY1.out.cell 8
  have y9 : w1.cell? ⟨w.heap.size + 1, 9, none⟩ = some (.string dhi) := HY1.out.cell 9
  have y10 : w1.cell? ⟨w.heap.size + 1, 10, none⟩ = some (.int .i64 dr) := HY1.out.cell 10
  have y11 : w1.cell? ⟨w.heap.size + 1, 11, none⟩ = some (.slice dp dn dc) := HY1.out.cell 11
  have b0 : w1.cell? ⟨w.heap.size + 1 + 1, 0, none⟩ = some (.bool false) := HR1.out.cell 0
  have bf0 : w1.frozen? ⟨w.heap.size + 1 + 1, 0, none⟩ = false := HR1.out.frozen 0
  have b1 : w1.cell? ⟨w.heap.size + 1 + 1, 1, none⟩ = some (.string ⟨#[]⟩) := HR1.out.cell 1
  have bf1 : w1.frozen? ⟨w.heap.size + 1 + 1, 1, none⟩ = false := HR1.out.frozen 1
  have b2 : w1.cell? ⟨w.heap.size + 1 + 1, 2, none⟩ = some (.string ⟨#[]⟩) := HR1.out.cell 2
  have bf2 : w1.frozen? ⟨w.heap.size + 1 + 1, 2, none⟩ = false := HR1.out.frozen 2
  have b3 : w1.cell? ⟨w.heap.size + 1 + 1, 3, none⟩ = some (.int .i64 0) := HR1.out.cell 3
  have bf3 : w1.frozen? ⟨w.heap.size + 1 + 1, 3, none⟩ = false := HR1.out.frozen 3
  have b4 : w1.cell? ⟨w.heap.size + 1 + 1, 4, none⟩ = some (.slice none 0 0) := HR1.out.cell 4
  have bf4 : w1.frozen? ⟨w.heap.size + 1 + 1, 4, none⟩ = false := HR1.out.frozen 4
  go_wp2
  clear a0 a1 a2 a3 a4
  clear y0 y1 y2 y3 y4 y5 y6 y7 y8 y9 y10 y11
  clear b0 bf0 b1 bf1 b2 bf2 b3 bf3 b4 bf4
  have k1 := HR1.out.five (.bool false) (.string ⟨#[]⟩) (.string ⟨#[]⟩) (.int .i64 0) (.slice none 0 0)
  have ht : Tn [w.heap.size + 1 + 1] w1 _ := (Tn.refl _ w1).five (R := w.heap.size + 1 + 1) (.inl (by simp)) (.bool false) (.string ⟨#[]⟩) (.string ⟨#[]⟩) (.int .i64 0) (.slice none 0 0)
  have hz := HB1.out.trans (ht.below HB1.out.size (by simp; omega))
  refine bodyPost_ret (results_two (T' := 24) (cs := [.bool false, .string ⟨#[]⟩, .string ⟨#[]⟩, .int .i64 0, .slice none 0 0]) rfl rfl pg_agg pg_size rfl k1) rfl ?_
  exact ⟨_, rfl, ⟨none, 0, rfl, Ens.nil _ _, fun _ => ⟨rfl, rfl⟩, Nat.le_refl _⟩, hz⟩

theorem Dl.without_remove (g : Pp) (key : ByteArray) : Dl.without g key = if (Pg.remove g key).2 = 0 then (Pg.remove g key).1 else g := by
  unfold Dl.without Pg.remove
  cases g.l.any (Pg.is key) <;> rfl

theorem rapply_any (g : Pp) (d : De) (pp dp : Option Addr) (pn pc dn dc : Nat) (w : World) (hlen : g.l.length = pn) (hx : Ens w pp g.l) (hl : pn ≤ 3518437208780) (hp : pp = none → pn = 0 ∧ pc = 0) (hcp : pn ≤ pc) (hdn : d.rt.l.length = dn) (hdx : Ens w dp d.rt.l) (hdl : (pn + dn) * 40 ≤ 140737488355328) (hdp : dp = none → dn = 0 ∧ dc = 0) :
    Calls Tryz.prog 24 #[pgv g.leaf g.lo g.hi g.r pp pn pc, dlv d.k d.e d.key d.pg d.rt.leaf d.rt.lo d.rt.hi d.rt.r dp dn dc] w fun e w' => ∃ v, e = .returned (.tuple #[v, .int .i64 (Dl.apply g d).2]) ∧ Pat w' v (Dl.apply g d).1 ∧ Below w.heap.size w w' := by
  have hc := fun (W : World) (h : Below w.heap.size w W) => rdcheck_any d dp dn dc W hdn (hdx.below h (Nat.le_refl _)) (by omega)
  obtain ⟨pf, plo, phi, pr, pl⟩ := g
  obtain ⟨dk, ⟨dek, des, deg, dec⟩, dkey, dpg, ⟨dleaf, dlo, dhi, dr, dl⟩⟩ := d
  simp only at *
  have hh : ∀ t, Ky.inn ⟨plo, phi⟩ dkey = t → ∀ W, Below w.heap.size w W → Calls Tryz.prog 23 #[pgv pf plo phi pr pp pn pc, .string dkey] W fun e w' => e = .returned (.bool t) ∧ Below W.heap.size W w' := by
    intro t ht W _
    have := rhas_any pf plo phi pr pp pn pc W dkey
    rw [ht] at this
    exact this
  cases hm : Dl.may ⟨dk, ⟨dek, des, deg, dec⟩, dkey, dpg, ⟨dleaf, dlo, dhi, dr, dl⟩⟩ with
  | false =>
    rw [hm] at hc
    have ha : Dl.apply ⟨pf, plo, phi, pr, pl⟩ ⟨dk, ⟨dek, des, deg, dec⟩, dkey, dpg, ⟨dleaf, dlo, dhi, dr, dl⟩⟩ = (Pg.zero, 90) := by unfold Dl.apply; rw [hm]; rfl
    rw [ha]
    exact rapply_0 pf plo phi pr pp pn pc dk dek des deg dec dkey dpg dleaf dlo dhi dr dp dn dc w hc
  | true =>
    rw [hm] at hc
    by_cases h1 : dk = 1
    · subst h1
      have ha : Dl.apply ⟨pf, plo, phi, pr, pl⟩ ⟨1, ⟨dek, des, deg, dec⟩, dkey, dpg, ⟨dleaf, dlo, dhi, dr, dl⟩⟩ = Pg.put ⟨pf, plo, phi, pr, pl⟩ ⟨dek, des, deg, dec⟩ := by unfold Dl.apply; rw [if_pos hm, if_pos rfl]
      rw [ha]
      exact rapply_1 pf plo phi pr pp pn pc dek des deg dec dkey dpg dleaf dlo dhi dr dp dn dc w hc _ _ (fun W h => rput_any pf plo phi pr pp pn pc pl ⟨dek, des, deg, dec⟩ W hlen (hx.below h (Nat.le_refl _)) (by omega) hp hcp)
    · by_cases h2 : dk = 2
      · subst h2
        cases hi : Ky.inn ⟨plo, phi⟩ dkey with
        | false =>
          have ha : Dl.apply ⟨pf, plo, phi, pr, pl⟩ ⟨2, ⟨dek, des, deg, dec⟩, dkey, dpg, ⟨dleaf, dlo, dhi, dr, dl⟩⟩ = (Pg.zero, 73) := by unfold Dl.apply; rw [if_pos hm, if_neg h1, if_pos rfl]; simp only [hi]; rfl
          rw [ha]
          exact rapply_2o pf plo phi pr pp pn pc dek des deg dec dkey dpg dleaf dlo dhi dr dp dn dc w hc (hh _ hi)
        | true =>
          have ha : Dl.apply ⟨pf, plo, phi, pr, pl⟩ ⟨2, ⟨dek, des, deg, dec⟩, dkey, dpg, ⟨dleaf, dlo, dhi, dr, dl⟩⟩ = (Dl.without ⟨pf, plo, phi, pr, pl⟩ dkey, 0) := by unfold Dl.apply; rw [if_pos hm, if_neg h1, if_pos rfl]; simp only [hi]; rfl
          rw [ha, Dl.without_remove]
          exact rapply_2 pf plo phi pr pp pn pc dek des deg dec dkey dpg dleaf dlo dhi dr dp dn dc w pl ⟨hp, hcp⟩ hlen hx hc (hh _ hi) _ _ (fun W h => rremove_any pf plo phi pr pp pn pc pl dkey W hlen (hx.below h (Nat.le_refl _)) (by omega) hcp)
      · by_cases h3 : dk = 3
        · subst h3
          cases hlo : Ky.lt plo dkey with
          | false =>
            have ha : Dl.apply ⟨pf, plo, phi, pr, pl⟩ ⟨3, ⟨dek, des, deg, dec⟩, dkey, dpg, ⟨dleaf, dlo, dhi, dr, dl⟩⟩ = (Pg.zero, 90) := by unfold Dl.apply; rw [if_pos hm, if_neg h1, if_neg h2, if_pos rfl]; simp only [hlo]; rfl
            rw [ha]
            exact rapply_3l pf plo phi pr pp pn pc dek des deg dec dkey dpg dleaf dlo dhi dr dp dn dc w hc hlo
          | true =>
            cases hi : Ky.inn ⟨plo, phi⟩ dkey with
            | false =>
              have ha : Dl.apply ⟨pf, plo, phi, pr, pl⟩ ⟨3, ⟨dek, des, deg, dec⟩, dkey, dpg, ⟨dleaf, dlo, dhi, dr, dl⟩⟩ = (Pg.zero, 90) := by unfold Dl.apply; rw [if_pos hm, if_neg h1, if_neg h2, if_pos rfl]; simp only [hlo, hi]; rfl
              rw [ha]
              exact rapply_3o pf plo phi pr pp pn pc dek des deg dec dkey dpg dleaf dlo dhi dr dp dn dc w hc hlo (hh _ hi)
            | true =>
              have ha : Dl.apply ⟨pf, plo, phi, pr, pl⟩ ⟨3, ⟨dek, des, deg, dec⟩, dkey, dpg, ⟨dleaf, dlo, dhi, dr, dl⟩⟩ = (Dl.upTo ⟨pf, plo, phi, pr, pl⟩ dkey dpg, 0) := by unfold Dl.apply; rw [if_pos hm, if_neg h1, if_neg h2, if_pos rfl]; simp only [hlo, hi]; rfl
              rw [ha]
              exact rapply_3 pf plo phi pr pp pn pc dek des deg dec dkey dpg dleaf dlo dhi dr dp dn dc w pl hlen hx hl hc hlo (hh _ hi)
        · by_cases h4 : dk = 4
          · subst h4
            have ha : Dl.apply ⟨pf, plo, phi, pr, pl⟩ ⟨4, ⟨dek, des, deg, dec⟩, dkey, dpg, ⟨dleaf, dlo, dhi, dr, dl⟩⟩ = Pg.merge ⟨pf, plo, phi, pr, pl⟩ ⟨dleaf, dlo, dhi, dr, dl⟩ := by unfold Dl.apply; rw [if_pos hm, if_neg h1, if_neg h2, if_neg h3, if_pos rfl]
            rw [ha]
            exact rapply_4 pf plo phi pr pp pn pc dek des deg dec dkey dpg dleaf dlo dhi dr dp dn dc w hc _ _ (fun W h => rmerge_any ⟨pf, plo, phi, pr, pl⟩ ⟨dleaf, dlo, dhi, dr, dl⟩ pp dp pn dn pc dc W hlen hdn (hx.below h (Nat.le_refl _)) (hdx.below h (Nat.le_refl _)) hp hdp hdl (by omega))
          · by_cases h5 : dk = 5
            · subst h5
              have ha : Dl.apply ⟨pf, plo, phi, pr, pl⟩ ⟨5, ⟨dek, des, deg, dec⟩, dkey, dpg, ⟨dleaf, dlo, dhi, dr, dl⟩⟩ = (Pg.zero, 91) := by unfold Dl.apply; rw [if_pos hm, if_neg h1, if_neg h2, if_neg h3, if_neg h4]
              rw [ha]
              exact rapply_5 pf plo phi pr pp pn pc dek des deg dec dkey dpg dleaf dlo dhi dr dp dn dc w hc
            · exfalso
              unfold Dl.may Dl.fits at hm
              simp [h1, h2, h3, h4, h5] at hm

end Go.Proofs.YthpilennljpamaaGreat

namespace Go.Proofs.YthpilennljpamaaGreat
open Go.RowKit Go.Sort
set_option linter.unusedVariables false
set_option linter.unusedSimpArgs false
set_option maxRecDepth 100000

/-- A row that a page leads to. -/
structure XP (w : World) (p : Option Addr) (n c : Nat) (l : List En) : Prop where
  len : l.length = n
  ens : Ens w p l
  nil : p = none → n = 0 ∧ c = 0
  le : n ≤ c

theorem Ens.notPage {w : World} {b o : Nat} {l : List En} (h : Ens w (some ⟨b, o, none⟩) l) (hl : 0 < l.length) {f : Bool} {lo hi : ByteArray} {r : Int} {p : Option Addr} {n c : Nat} (k : Bk w b 24 #[.bool f, .string lo, .string hi, .int .i64 r, .slice p n c]) : False := by
  obtain ⟨b', o', e, hp, _, _, h0, h1, h2, h3⟩ := h.at hl
  cases hp
  rw [k.cell] at h0 h1 h2
  match o, h0, h1, h2 with
  | 0, h0, _, _ => simp at h0
  | 1, _, h1, _ => simp at h1
  | 2, _, _, h2 => simp at h2
  | 3, h0, _, _ => simp at h0
  | 4, h0, _, _ => simp at h0
  | o + 5, h0, _, _ => simp at h0

theorem Ens.tnP {w w' : World} {p : Option Addr} {l : List En} (h : Ens w p l) {X : Nat} (t : Tn [X] w w') {f : Bool} {lo hi : ByteArray} {r : Int} {q : Option Addr} {n c : Nat} (k : Bk w X 24 #[.bool f, .string lo, .string hi, .int .i64 r, .slice q n c]) : Ens w' p l := by
  intro hl
  obtain ⟨b, o, hp, hc⟩ := h hl
  subst hp
  have hne : b ≠ X := fun e => by subst e; exact h.notPage hl k
  refine ⟨b, o, rfl, fun i e hi => ?_⟩
  obtain ⟨h0, h1, h2, h3⟩ := hc i e hi
  have e9 : w'.heap[b]? = w.heap[b]? := t.block b (World.block_lt_of_cell? w _ h0) (by simpa using hne)
  rw [World.cell?_of_block (a := ⟨b, o + i * 4, none⟩) e9, World.cell?_of_block (a := ⟨b, o + i * 4 + 1, none⟩) e9, World.cell?_of_block (a := ⟨b, o + i * 4 + 2, none⟩) e9, World.cell?_of_block (a := ⟨b, o + i * 4 + 3, none⟩) e9]
  exact ⟨h0, h1, h2, h3⟩

theorem XP.tn {w w' : World} {p : Option Addr} {n c : Nat} {l : List En} (h : XP w p n c l) {X : Nat} (t : Tn [X] w w') {f : Bool} {lo hi : ByteArray} {r : Int} {q : Option Addr} {n' c' : Nat} (k : Bk w X 24 #[.bool f, .string lo, .string hi, .int .i64 r, .slice q n' c']) : XP w' p n c l := ⟨h.len, h.ens.tnP t k, h.nil, h.le⟩
theorem XP.below {w w' : World} {p : Option Addr} {n c : Nat} {l : List En} (h : XP w p n c l) (hb : Below w.heap.size w w') : XP w' p n c l := ⟨h.len, h.ens.below hb (Nat.le_refl _), h.nil, h.le⟩

theorem Dl.fo_stuck (ds : List De) : ∀ a : Pp × Int, a.2 ≠ 0 → ds.foldl Dl.ap a = a := by
  induction ds with
  | nil => intro a _; rfl
  | cons d r ih =>
    intro a ha
    have e : Dl.ap a d = a := by unfold Dl.ap; rw [if_neg ha]
    rw [List.foldl_cons, e]
    exact ih a ha

/-- Between the rounds. -/
structure Fd (w wr : World) (g : Pp) (q : Option Addr) (n c : Nat) : Prop where
  bel : Below w.heap.size w wr
  b4 : Bk wr (w.heap.size + 1) 24 zc
  b6 : Bk wr (w.heap.size + 1 + 1) 24 #[.bool g.leaf, .string g.lo, .string g.hi, .int .i64 g.r, .slice q n c]
  xp : XP wr q n c g.l

theorem rev_at {L : List Dm} {len k : Nat} {m : Dm} (hL : L.length = len) (hk : k + 1 ≤ len) (hm : L[k]? = some m) : ((L.map (·.d)).reverse).take (len - k) = ((L.map (·.d)).reverse).take (len - (k + 1)) ++ [m.d] := by
  have e : len - k = (len - (k + 1)) + 1 := by omega
  rw [e, List.take_add_one]
  congr 1
  have hlt : len - (k + 1) < (L.map (·.d)).length := by simp; omega
  rw [List.getElem?_reverse hlt]
  have e2 : (L.map (·.d)).length - 1 - (len - (k + 1)) = k := by simp; omega
  rw [e2]
  simp [hm]

set_option maxHeartbeats 16000000 in
theorem rfold_any (pf : Bool) (plo phi : ByteArray) (pr : Int) (pp : Option Addr) (pn pc : Nat) (pl : List En) (p : Option Addr) (len cap : Nat) (L : List Dm) (w : World) (hx : XP w pp pn pc pl) (hL : L.length = len) (hll : len ≤ 1048576) (hD : Des w p L) (hrt : ∀ m ∈ L, m.n ≤ 1048576)
    (hfl : ∀ t, (Dl.fo ⟨pf, plo, phi, pr, pl⟩ ((L.map (·.d)).reverse.take t)).1.l.length ≤ 2000000000000) :
    Calls Tryz.prog 17 #[.agg #[.bool pf, .string plo, .string phi, .int .i64 pr, .slice pp pn pc], .slice p len cap] w fun e w' => ∃ v, e = .returned (.tuple #[v, .int .i64 (Dl.fo ⟨pf, plo, phi, pr, pl⟩ (L.map (·.d)).reverse).2]) ∧ Pat w' v (Dl.fo ⟨pf, plo, phi, pr, pl⟩ (L.map (·.d)).reverse).1 ∧ Below w.heap.size w w' := by
  obtain ⟨g0, hg0⟩ : ∃ g0 : Pp, g0 = ⟨pf, plo, phi, pr, pl⟩ := ⟨_, rfl⟩
  obtain ⟨FO, HFO⟩ : ∃ FO : Pp × Int, Hid (Dl.fo ⟨pf, plo, phi, pr, pl⟩ (L.map (·.d)).reverse = FO) := ⟨_, rfl⟩
  rw [HFO.out]
  have HH : Hid (XP w pp pn pc pl ∧ L.length = len ∧ Des w p L ∧ (∀ m ∈ L, m.n ≤ 1048576) ∧ (∀ t, (Dl.fo ⟨pf, plo, phi, pr, pl⟩ ((L.map (·.d)).reverse.take t)).1.l.length ≤ 2000000000000)) := ⟨hx, hL, hD, hrt, hfl⟩
  clear hx hL hD hrt hfl hg0
  obtain ⟨w0, hw0⟩ : ∃ w0, ((w.alloc (.cells #[.bool pf, .string plo, .string phi, .int .i64 pr, .slice pp pn pc] 24)).alloc (.cells zc 24)).alloc (.cells #[.bool pf, .string plo, .string phi, .int .i64 pr, .slice pp pn pc] 24) = w0 := ⟨_, rfl⟩
  have hb0 : Below w.heap.size w w0 := by rw [← hw0]; exact (((Below.refl _ _).alloc (Nat.le_refl _) _).alloc (by simp) _).alloc (by simp; omega) _
  have HF0 : Hid (Fd w w0 ⟨pf, plo, phi, pr, pl⟩ pp pn pc) := by
    refine ⟨hb0, ?_, ?_, HH.out.1.below hb0⟩
    · rw [← hw0]; exact (Bk.new1 _ _ _ _).alloc _
    · rw [← hw0]; exact Bk.new2 _ _ _ _ _
  clear hb0
  unfold zc at hw0
  go_enter Tryz.func17, Tryz.ntmps17
  go_wp2_with fail
  try rw [hw0]
  clear hw0
  go_loopw [7] (fun iv wr => ∃ (k : Nat) (g : Pp) (q : Option Addr) (n c : Nat), k ≤ len ∧ iv = .int .i64 ((k : Int) - 1) ∧ Hid (Fd w wr g q n c ∧ Dl.fo ⟨pf, plo, phi, pr, pl⟩ ((L.map (·.d)).reverse.take (len - k)) = (g, 0))) (fun iv _ => (intOf iv + 1).toNat)
  case atStart => exact ⟨len, _, pp, pn, pc, Nat.le_refl _, by go_num, HF0.out, by rw [Nat.sub_self]; rfl⟩
  case round =>
    obtain ⟨k, ⟨gf, glo, ghi, gr, gl⟩, gp, gn, gc, hk, rfl, HI⟩ := hrel
    clear HF0
    cases k with
    | zero =>
      have hneg : ¬ (0 : Int) ≤ ((0 : Nat) : Int) - 1 := by omega
      have HB4 : Hid (Bk wr (w.heap.size + 1) 24 zc) := HI.out.1.b4
      have HB6 : Hid (Bk wr (w.heap.size + 1 + 1) 24 #[.bool gf, .string glo, .string ghi, .int .i64 gr, .slice gp gn gc]) := HI.out.1.b6
      have HFE : Hid (FO = (⟨gf, glo, ghi, gr, gl⟩, 0)) := by
        have h1 := HI.out.2
        rw [Nat.sub_zero, List.take_of_length_le (by simp [HH.out.2.1])] at h1
        exact HFO.out.symm.trans h1
      have HXX : Hid (Below w.heap.size w wr ∧ XP wr gp gn gc gl) := ⟨HI.out.1.bel, HI.out.1.xp⟩
      have c0 : wr.cell? ⟨w.heap.size + 1 + 1, 0, none⟩ = some (.bool gf) := HB6.out.cell 0
      have c1 : wr.cell? ⟨w.heap.size + 1 + 1, 1, none⟩ = some (.string glo) := HB6.out.cell 1
      have c2 : wr.cell? ⟨w.heap.size + 1 + 1, 2, none⟩ = some (.string ghi) := HB6.out.cell 2
      have c3 : wr.cell? ⟨w.heap.size + 1 + 1, 3, none⟩ = some (.int .i64 gr) := HB6.out.cell 3
      have c4 : wr.cell? ⟨w.heap.size + 1 + 1, 4, none⟩ = some (.slice gp gn gc) := HB6.out.cell 4
      have z0 : wr.cell? ⟨w.heap.size + 1, 0, none⟩ = some (.bool false) := HB4.out.cell 0
      have z1 : wr.cell? ⟨w.heap.size + 1, 1, none⟩ = some (.string ⟨#[]⟩) := HB4.out.cell 1
      have z2 : wr.cell? ⟨w.heap.size + 1, 2, none⟩ = some (.string ⟨#[]⟩) := HB4.out.cell 2
      have z3 : wr.cell? ⟨w.heap.size + 1, 3, none⟩ = some (.int .i64 0) := HB4.out.cell 3
      have z4 : wr.cell? ⟨w.heap.size + 1, 4, none⟩ = some (.slice none 0 0) := HB4.out.cell 4
      have y0 : wr.frozen? ⟨w.heap.size + 1, 0, none⟩ = false := HB4.out.frozen 0
      have y1 : wr.frozen? ⟨w.heap.size + 1, 1, none⟩ = false := HB4.out.frozen 1
      have y2 : wr.frozen? ⟨w.heap.size + 1, 2, none⟩ = false := HB4.out.frozen 2
      have y3 : wr.frozen? ⟨w.heap.size + 1, 3, none⟩ = false := HB4.out.frozen 3
      have y4 : wr.frozen? ⟨w.heap.size + 1, 4, none⟩ = false := HB4.out.frozen 4
      clear HI
      go_wp2
      have k1 := Bk.five HB4.out (.bool gf) (.string glo) (.string ghi) (.int .i64 gr) (.slice gp gn gc)
      have ht : Tn [w.heap.size + 1] wr _ := (Tn.refl _ _).five (R := w.heap.size + 1) (.inl (by simp)) (.bool gf) (.string glo) (.string ghi) (.int .i64 gr) (.slice gp gn gc)
      have hz := HXX.out.1.trans (ht.below HXX.out.1.size (by simp))
      have hx9 := HXX.out.2.tn ht HB4.out
      refine bodyPost_ret (results_two (T' := 24) (cs := [.bool gf, .string glo, .string ghi, .int .i64 gr, .slice gp gn gc]) rfl rfl pg_agg pg_size rfl k1) rfl ?_
      rw [HFE.out]
      have e9 : (⟨gf, glo, ghi, gr, gl⟩ : Pp).l.length = gn := hx9.len
      exact ⟨_, rfl, ⟨gp, gc, by rw [e9], hx9.ens, fun h => ⟨e9.trans (hx9.nil h).1, (hx9.nil h).2⟩, Nat.le_trans (Nat.le_of_eq e9) hx9.le⟩, hz⟩
    | succ k =>
      have e1 : ((k + 1 : Nat) : Int) - 1 = (k : Int) := by omega
      rw [e1]
      have h0 : (0 : Int) ≤ (k : Int) := by omega
      have hki : (k : Int) < (len : Int) := by omega
      obtain ⟨m, hm⟩ : ∃ m, L[k]? = some m := ⟨_, List.getElem?_eq_getElem (by rw [HH.out.2.1]; omega)⟩
      obtain ⟨b, o, hlp, hc⟩ := HH.out.2.2.1 (by rw [HH.out.2.1]; omega)
      have hmn := HH.out.2.2.2.1 m (List.mem_of_getElem? hm)
      have hrev := rev_at HH.out.2.1 hk hm
      obtain ⟨hcm, hok⟩ := hc k m hm
      obtain ⟨⟨dk, ⟨dek, des, deg, dec⟩, dkey, dpg, ⟨dleaf, dlo, dhi, dr, dl⟩⟩, dp, dn, dc⟩ := m
      subst hlp
      have HOK : Hid (Dm.Ok w ⟨⟨dk, ⟨dek, des, deg, dec⟩, dkey, dpg, ⟨dleaf, dlo, dhi, dr, dl⟩⟩, dp, dn, dc⟩ ∧ dn ≤ 1048576) := ⟨hok, hmn⟩
      have HCD : Hid (∀ W, Below wr.heap.size wr W → ∀ t v, (⟨⟨dk, ⟨dek, des, deg, dec⟩, dkey, dpg, ⟨dleaf, dlo, dhi, dr, dl⟩⟩, dp, dn, dc⟩ : Dm).cells[t]? = some v → W.cell? ⟨b, o + k * 12 + t, none⟩ = some v) := fun W hW t v hv => by
        have h9 := hcm t v hv
        have hbb := HI.out.1.bel.trans (hW.mono HI.out.1.bel.size)
        rw [hbb.cell (p := ⟨b, o + k * 12 + t, none⟩) (World.block_lt_of_cell? w _ h9)]
        exact h9
      have HCG : Hid (∀ W, Below wr.heap.size wr W → Bk W (w.heap.size + 1 + 1) 24 #[.bool gf, .string glo, .string ghi, .int .i64 gr, .slice gp gn gc]) := fun W hW => HI.out.1.b6.below hW HI.out.1.b6.lt
      obtain ⟨⟨⟨xf, xlo, xhi, xr, xl⟩, err⟩, HA⟩ : ∃ A : Pp × Int, Hid (Dl.apply ⟨gf, glo, ghi, gr, gl⟩ ⟨dk, ⟨dek, des, deg, dec⟩, dkey, dpg, ⟨dleaf, dlo, dhi, dr, dl⟩⟩ = A) := ⟨_, rfl⟩
      obtain ⟨xn, HXN⟩ : ∃ xn, Hid (xl.length = xn) := ⟨_, rfl⟩
      have HNX : Hid (Dl.fo ⟨pf, plo, phi, pr, pl⟩ ((L.map (·.d)).reverse.take (len - k)) = (⟨xf, xlo, xhi, xr, xl⟩, err)) := by
        show _ = _
        rw [hrev, Dl.fo_snoc, HI.out.2]
        show (if (0 : Int) = 0 then Dl.apply ⟨gf, glo, ghi, gr, gl⟩ ⟨dk, ⟨dek, des, deg, dec⟩, dkey, dpg, ⟨dleaf, dlo, dhi, dr, dl⟩⟩ else _) = _
        rw [if_pos rfl, HA.out]
      have HFS : Hid (err ≠ 0 → FO = (Pg.zero, err)) := by
        intro he
        have h1 : Dl.fo ⟨pf, plo, phi, pr, pl⟩ (L.map (·.d)).reverse = (⟨xf, xlo, xhi, xr, xl⟩, err) := by
          have h2 := List.take_append_drop (len - k) (L.map (·.d)).reverse
          rw [← h2]
          unfold Dl.fo
          rw [List.foldl_append]
          have h3 : ((L.map (·.d)).reverse.take (len - k)).foldl Dl.ap ((⟨pf, plo, phi, pr, pl⟩, 0) : Pp × Int) = (⟨xf, xlo, xhi, xr, xl⟩, err) := HNX.out
          rw [h3]
          exact Dl.fo_stuck _ _ he
        have h4 := Dl.fo_zero ⟨pf, plo, phi, pr, pl⟩ (L.map (·.d)).reverse (by rw [h1]; exact he)
        rw [h1] at h4
        rw [← HFO.out, h1]
        simp only at h4
        rw [h4]
      have HAP : Hid (∀ W, Below wr.heap.size wr W → Calls Tryz.prog 24 #[.agg #[.bool gf, .string glo, .string ghi, .int .i64 gr, .slice gp gn gc], .agg #[.int .i64 dk, .string dek, .int .i64 des, .int .i64 deg, .int .i64 dec, .string dkey, .int .i64 dpg, .bool dleaf, .string dlo, .string dhi, .int .i64 dr, .slice dp dn dc]] W fun e w' => ∃ xp xc, e = .returned (.tuple #[.agg #[.bool xf, .string xlo, .string xhi, .int .i64 xr, .slice xp xn xc], .int .i64 err]) ∧ XP w' xp xn xc xl ∧ Below W.heap.size W w') := by
        intro W hW
        have hbb := HI.out.1.bel.trans (hW.mono HI.out.1.bel.size)
        have hgl : gl.length ≤ 2000000000000 := by
          have := HH.out.2.2.2.2 (len - (k + 1))
          rw [HI.out.2] at this
          exact this
        have hgn : gl.length = gn := HI.out.1.xp.len
        have := rapply_any ⟨gf, glo, ghi, gr, gl⟩ ⟨dk, ⟨dek, des, deg, dec⟩, dkey, dpg, ⟨dleaf, dlo, dhi, dr, dl⟩⟩ gp dp gn gc dn dc W HI.out.1.xp.len (HI.out.1.xp.ens.below hW (Nat.le_refl _)) (by omega) HI.out.1.xp.nil HI.out.1.xp.le HOK.out.1.len (HOK.out.1.ens.below hbb (Nat.le_refl _)) (by have := HOK.out.2; omega) HOK.out.1.nil
        rw [HA.out] at this
        refine this.mono ?_
        rintro e w' ⟨v, rfl, ⟨xp, xc, rfl, h1, h2, h3⟩, hb⟩
        refine ⟨xp, xc, ?_, ⟨HXN.out, h1, fun h => ?_, ?_⟩, hb⟩
        · have e9 : (⟨xf, xlo, xhi, xr, xl⟩ : Pp).l.length = xn := HXN.out
          rw [e9]
        · have := h2 h
          exact ⟨HXN.out.symm.trans this.1, this.2⟩
        · have e9 : (⟨xf, xlo, xhi, xr, xl⟩ : Pp).l.length ≤ xc := h3
          have e8 := HXN.out
          exact Nat.le_trans (Nat.le_of_eq e8.symm) e9
      clear hc hcm hok hmn hrev hm
      go_wp2_with fail
      refine wp_region_mid (S := (fun w' => Below wr.heap.size wr w')) 11 (by kernel_rfl) ?_
      obtain ⟨wd, hwd⟩ : ∃ wd, wr.drew = wd := ⟨_, rfl⟩
      have hB : Below wr.heap.size wr wd := by rw [← hwd]; exact (Below.refl _ _).drew
      rw [hwd]
      clear hwd
      refine wpAnyM_take (i := 0) [5, 6, 7, 8, 10, 11] (oi := { dst := some 19, op := Op.load 24 (Operand.tmp 6), type := 24, pos := _, after := #[], guard := none }) (v := .agg #[.bool gf, .string glo, .string ghi, .int .i64 gr, .slice gp gn gc]) rfl (by kernel_rfl) (by kernel_rfl) (by kernel_rfl) (by kernel_rfl) (fun _ _ _ h => h) (Or.inl ⟨by rfl, ?_⟩) hB ?_
      · (intro w' hSw; have c0 := (HCG.out w' hSw).cell 0; have c1 := (HCG.out w' hSw).cell 1; have c2 := (HCG.out w' hSw).cell 2; have c3 := (HCG.out w' hSw).cell 3; have c4 := (HCG.out w' hSw).cell 4; go_simp; try with_reducible rfl)
      try simp only [Act.put, List.setIfInBounds_toArray, List.set_cons_zero, List.set_cons_succ]
      refine wpAnyM_take (i := 1) [3, 4, 5, 6, 7, 8, 10, 11] (oi := { dst := some 20, op := Op.move (Operand.tmp 1), type := 25, pos := _, after := #[], guard := none }) (v := .slice (some ⟨b, o, none⟩) len cap) rfl (by kernel_rfl) (by kernel_rfl) (by kernel_rfl) (by kernel_rfl) (fun _ _ _ h => h) (Or.inl ⟨by rfl, ?_⟩) hB ?_
      · (intro w' hSw; skip; go_simp; try with_reducible rfl)
      try simp only [Act.put, List.setIfInBounds_toArray, List.set_cons_zero, List.set_cons_succ]
      refine wpAnyM_take (i := 2) [3, 4, 5, 6, 7, 8, 10, 11] (oi := { dst := some 21, op := Op.move (Operand.tmp 7), type := 3, pos := _, after := #[], guard := none }) (v := .int .i64 (k : Int)) rfl (by kernel_rfl) (by kernel_rfl) (by kernel_rfl) (by kernel_rfl) (fun _ _ _ h => h) (Or.inl ⟨by rfl, ?_⟩) hB ?_
      · (intro w' hSw; skip; go_simp; try with_reducible rfl)
      try simp only [Act.put, List.setIfInBounds_toArray, List.set_cons_zero, List.set_cons_succ]
      refine wpAnyM_take (i := 3) [4, 5, 6, 7, 8, 10, 11] (oi := { dst := some 22, op := Op.indexAddr 25 (Operand.tmp 20) (Operand.tmp 21), type := 0, pos := _, after := #[{ on := 1, ground := Ground.data }, { on := 2, ground := Ground.data }], guard := none }) (v := .pointer (some ⟨b, o + k * 12, none⟩)) rfl (by kernel_rfl) (by kernel_rfl) (by kernel_rfl) (by kernel_rfl) (fun _ _ _ h => h) (Or.inl ⟨by rfl, ?_⟩) hB ?_
      · (intro w' hSw; skip; go_simp; try with_reducible rfl)
      try simp only [Act.put, List.setIfInBounds_toArray, List.set_cons_zero, List.set_cons_succ]
      refine wpAnyM_take (i := 4) [5, 6, 7, 8, 10, 11] (oi := { dst := some 23, op := Op.load 32 (Operand.tmp 22), type := 32, pos := _, after := #[{ on := 3, ground := Ground.data }], guard := none }) (v := .agg #[.int .i64 dk, .string dek, .int .i64 des, .int .i64 deg, .int .i64 dec, .string dkey, .int .i64 dpg, .bool dleaf, .string dlo, .string dhi, .int .i64 dr, .slice dp dn dc]) rfl (by kernel_rfl) (by kernel_rfl) (by kernel_rfl) (by kernel_rfl) (fun _ _ _ h => h) (Or.inl ⟨by rfl, ?_⟩) hB ?_
      · (intro w' hSw; have e0 : w'.cell? ⟨b, o + k * 12, none⟩ = some (.int .i64 dk) := HCD.out w' hSw 0 _ rfl; have e1 : w'.cell? ⟨b, o + k * 12 + 1, none⟩ = some (.string dek) := HCD.out w' hSw 1 _ rfl; have e2 : w'.cell? ⟨b, o + k * 12 + 2, none⟩ = some (.int .i64 des) := HCD.out w' hSw 2 _ rfl; have e3 : w'.cell? ⟨b, o + k * 12 + 3, none⟩ = some (.int .i64 deg) := HCD.out w' hSw 3 _ rfl; have e4 : w'.cell? ⟨b, o + k * 12 + 4, none⟩ = some (.int .i64 dec) := HCD.out w' hSw 4 _ rfl; have e5 : w'.cell? ⟨b, o + k * 12 + 5, none⟩ = some (.string dkey) := HCD.out w' hSw 5 _ rfl; have e6 : w'.cell? ⟨b, o + k * 12 + 6, none⟩ = some (.int .i64 dpg) := HCD.out w' hSw 6 _ rfl; have e7 : w'.cell? ⟨b, o + k * 12 + 7, none⟩ = some (.bool dleaf) := HCD.out w' hSw 7 _ rfl; have e8 : w'.cell? ⟨b, o + k * 12 + 8, none⟩ = some (.string dlo) := HCD.out w' hSw 8 _ rfl; have e9 : w'.cell? ⟨b, o + k * 12 + 9, none⟩ = some (.string dhi) := HCD.out w' hSw 9 _ rfl; have e10 : w'.cell? ⟨b, o + k * 12 + 10, none⟩ = some (.int .i64 dr) := HCD.out w' hSw 10 _ rfl; have e11 : w'.cell? ⟨b, o + k * 12 + 11, none⟩ = some (.slice dp dn dc) := HCD.out w' hSw 11 _ rfl; go_simp; try with_reducible rfl)
      try simp only [Act.put, List.setIfInBounds_toArray, List.set_cons_zero, List.set_cons_succ]
      refine wpAnyM_ready (rs := [5, 9]) (by kernel_rfl) (by simp) ?_
      refine AllReadyM.cons (o := { dst := some 24, op := Op.call { callee := Callee.value (Operand.func 24), args := #[Operand.tmp 19, Operand.tmp 23], argTypes := #[24, 32] }, type := 35, pos := _, after := #[{ on := 0, ground := Ground.data }, { on := 4, ground := Ground.data }], guard := none }) rfl (fun K hK => ?_) (AllReadyM.cons (o := { dst := some 8, op := Op.alloc 24, type := 0, pos := _, after := #[], guard := none }) rfl (fun K hK => ?_) AllReadyM.nil)
      · as_aux_lemma =>
          have HK9 : Hid (∀ a w, _ → K a w) := hK
          clear hK
          go_simp
          refine Calls.mono (HAP.out _ hB) ?_
          rintro e w1 ⟨xp, xc, rfl, hx1, hb1⟩
          have HX1 : Hid (XP w1 xp xn xc xl) := hx1
          have hB0 := hB
          have hB : Below wr.heap.size wr w1 := hB0.trans (hb1.mono hB0.size)
          clear hB0 hb1
          refine HK9.out _ _ ⟨fun _ => hB, ?_⟩
          clear HK9 K
          try simp only [Act.put, List.setIfInBounds_toArray, List.set_cons_zero, List.set_cons_succ]
          refine wpAnyM_take (i := 6) [] (oi := { dst := some 18, op := Op.move (Operand.tmp 24), type := 35, pos := _, after := #[{ on := 5, ground := Ground.data }], guard := none }) (v := .tuple #[.agg #[.bool xf, .string xlo, .string xhi, .int .i64 xr, .slice xp xn xc], .int .i64 err]) rfl (by kernel_rfl) (by kernel_rfl) (by kernel_rfl) (by kernel_rfl) (fun _ _ _ h => h) (Or.inl ⟨by rfl, ?_⟩) hB ?_
          · (intro w' hSw; skip; go_simp; try with_reducible rfl)
          try simp only [Act.put, List.setIfInBounds_toArray, List.set_cons_zero, List.set_cons_succ]
          refine wpAnyM_take (i := 7) [] (oi := { dst := some 25, op := Op.extract (Operand.tmp 18) 0, type := 24, pos := _, after := #[{ on := 6, ground := Ground.data }], guard := none }) (v := .agg #[.bool xf, .string xlo, .string xhi, .int .i64 xr, .slice xp xn xc]) rfl (by kernel_rfl) (by kernel_rfl) (by kernel_rfl) (by kernel_rfl) (fun _ _ _ h => h) (Or.inl ⟨by rfl, ?_⟩) hB ?_
          · (intro w' hSw; skip; go_simp; try with_reducible rfl)
          try simp only [Act.put, List.setIfInBounds_toArray, List.set_cons_zero, List.set_cons_succ]
          refine wpAnyM_take (i := 8) [] (oi := { dst := some 26, op := Op.extract (Operand.tmp 18) 1, type := 34, pos := _, after := #[{ on := 6, ground := Ground.data }, { on := 10, ground := Ground.gcOnly Departure.lateStores }], guard := none }) (v := .int .i64 err) rfl (by kernel_rfl) (by kernel_rfl) (by kernel_rfl) (by kernel_rfl) (fun _ _ _ h => h) (Or.inl ⟨by rfl, ?_⟩) hB ?_
          · (intro w' hSw; skip; go_simp; try with_reducible rfl)
          try simp only [Act.put, List.setIfInBounds_toArray, List.set_cons_zero, List.set_cons_succ]
          refine wpAnyM_ready (rs := [9]) (by kernel_rfl) (by simp) ?_
          refine AllReadyM.cons (o := { dst := some 8, op := Op.alloc 24, type := 0, pos := _, after := #[], guard := none }) rfl (fun K hK => ?_) AllReadyM.nil
          have HK9 : Hid (∀ a w, _ → K a w) := hK
          clear hK
          go_simp
          obtain ⟨Xb, hXb⟩ : ∃ Xb, w1.heap.size = Xb := ⟨_, rfl⟩
          obtain ⟨w2, hW2⟩ : ∃ w2, w2 = w1.alloc (.cells zc 24) := ⟨_, rfl⟩
          have hal : Below w1.heap.size w1 w2 := by rw [hW2]; exact (Below.refl _ _).alloc (Nat.le_refl _) _
          have hkx : Bk w2 Xb 24 zc := by rw [hW2, ← hXb]; exact Bk.new _ _ _
          have hgx : wr.heap.size ≤ Xb := by rw [← hXb]; exact hB.size
          have hB0 := hB
          have hB : Below wr.heap.size wr w2 := hB0.trans (hal.mono hB0.size)
          have HX1 : Hid (XP w2 xp xn xc xl) := HX1.out.below hal
          clear hal hB0
          refine HK9.out _ _ ⟨fun _ => (by have h9 := hB; rw [hW2] at h9; exact h9), ?_⟩
          clear HK9 K
          try simp only [Act.put, List.setIfInBounds_toArray, List.set_cons_zero, List.set_cons_succ]
          rw [hXb, ← hW2]
          clear hW2 hXb
          have z0 : w2.cell? ⟨Xb, 0, none⟩ = some (.bool false) := hkx.cell 0
          have z1 : w2.cell? ⟨Xb, 1, none⟩ = some (.string ⟨#[]⟩) := hkx.cell 1
          have z2 : w2.cell? ⟨Xb, 2, none⟩ = some (.string ⟨#[]⟩) := hkx.cell 2
          have z3 : w2.cell? ⟨Xb, 3, none⟩ = some (.int .i64 0) := hkx.cell 3
          have z4 : w2.cell? ⟨Xb, 4, none⟩ = some (.slice none 0 0) := hkx.cell 4
          have y0 : w2.frozen? ⟨Xb, 0, none⟩ = false := hkx.frozen 0
          have y1 : w2.frozen? ⟨Xb, 1, none⟩ = false := hkx.frozen 1
          have y2 : w2.frozen? ⟨Xb, 2, none⟩ = false := hkx.frozen 2
          have y3 : w2.frozen? ⟨Xb, 3, none⟩ = false := hkx.frozen 3
          have y4 : w2.frozen? ⟨Xb, 4, none⟩ = false := hkx.frozen 4
          refine wpAnyM_ready (rs := [10]) (by kernel_rfl) (by simp) ?_
          refine AllReadyM.cons (o := { dst := none, op := Op.store 24 (Operand.tmp 8) (Operand.tmp 25), type := 0, pos := _, after := #[{ on := 9, ground := Ground.data }, { on := 7, ground := Ground.data }, { on := 5, ground := Ground.chain }, { on := 0, ground := Ground.phase }, { on := 1, ground := Ground.phase }, { on := 2, ground := Ground.phase }, { on := 3, ground := Ground.phase }, { on := 4, ground := Ground.phase }, { on := 5, ground := Ground.phase }, { on := 6, ground := Ground.phase }, { on := 7, ground := Ground.phase }, { on := 8, ground := Ground.textOnly Departure.lateStores }, { on := 9, ground := Ground.phase }], guard := none }) rfl (fun K hK => ?_) AllReadyM.nil
          have HK9 : Hid (∀ a w, _ → K a w) := hK
          clear hK
          go_simp
          refine HK9.out _ _ ⟨fun _ => hB.trans (((Tn.refl [Xb] w2).five (.inl (by simp)) _ _ _ _ _).below hB.size (by simpa using hgx)), ?_⟩
          clear HK9 K
          try simp only [Act.put, List.setIfInBounds_toArray, List.set_cons_zero, List.set_cons_succ]
          refine wpAnyM_ready (rs := [11]) (by kernel_rfl) (by simp) ?_
          refine AllReadyM.cons (o := { dst := some 9, op := Op.assign (Operand.tmp 26), type := 34, pos := _, after := #[{ on := 8, ground := Ground.data }, { on := 10, ground := Ground.chain }, { on := 0, ground := Ground.phase }, { on := 1, ground := Ground.phase }, { on := 2, ground := Ground.phase }, { on := 3, ground := Ground.phase }, { on := 4, ground := Ground.phase }, { on := 5, ground := Ground.phase }, { on := 6, ground := Ground.phase }, { on := 7, ground := Ground.phase }, { on := 8, ground := Ground.phase }, { on := 9, ground := Ground.phase }, { on := 10, ground := Ground.phase }], guard := none }) rfl (fun K hK => ?_) AllReadyM.nil
          have HK9 : Hid (∀ a w, _ → K a w) := hK
          clear hK
          go_simp
          refine HK9.out _ _ ⟨fun h => absurd h (by omega), ?_⟩
          clear HK9 K
          try simp only [Act.put, List.setIfInBounds_toArray, List.set_cons_zero, List.set_cons_succ]
          refine wpAnyM_done (by kernel_rfl) ?_ _
          obtain ⟨wz, hwz⟩ : ∃ wz, wz = put5 w2 Xb (.bool xf) (.string xlo) (.string xhi) (.int .i64 xr) (.slice xp xn xc) := ⟨_, rfl⟩
          have ht : Tn [Xb] w2 wz := by rw [hwz]; exact (Tn.refl _ _).five (.inl (by simp)) _ _ _ _ _
          have hkz : Bk wz Xb 24 #[.bool xf, .string xlo, .string xhi, .int .i64 xr, .slice xp xn xc] := by rw [hwz]; exact Bk.five hkx _ _ _ _ _
          have HZ : Hid (Below wr.heap.size wr wz ∧ Bk wz Xb 24 #[.bool xf, .string xlo, .string xhi, .int .i64 xr, .slice xp xn xc] ∧ XP wz xp xn xc xl) := ⟨hB.trans (ht.below hB.size (by simpa using hgx)), hkz, HX1.out.tn ht hkx⟩
          unfold put5 at hwz
          rw [← hwz]
          clear hwz ht hkz hkx hB HX1 z0 z1 z2 z3 z4 y0 y1 y2 y3 y4
          have HG9 : Hid (wr.heap.size ≤ Xb) := hgx
          have HB4 : Hid (Bk wz (w.heap.size + 1) 24 zc) := HI.out.1.b4.below HZ.out.1 HI.out.1.b4.lt
          have HB6 : Hid (Bk wz (w.heap.size + 1 + 1) 24 #[.bool gf, .string glo, .string ghi, .int .i64 gr, .slice gp gn gc]) := HI.out.1.b6.below HZ.out.1 HI.out.1.b6.lt
          have HBZ : Hid (Below w.heap.size w wz) := HI.out.1.bel.trans (HZ.out.1.mono HI.out.1.bel.size)
          clear hgx HAP HCD HCG
          by_cases he : err = 0
          · subst he
            have c0 : wz.cell? ⟨Xb, 0, none⟩ = some (.bool xf) := HZ.out.2.1.cell 0
            have c1 : wz.cell? ⟨Xb, 1, none⟩ = some (.string xlo) := HZ.out.2.1.cell 1
            have c2 : wz.cell? ⟨Xb, 2, none⟩ = some (.string xhi) := HZ.out.2.1.cell 2
            have c3 : wz.cell? ⟨Xb, 3, none⟩ = some (.int .i64 xr) := HZ.out.2.1.cell 3
            have c4 : wz.cell? ⟨Xb, 4, none⟩ = some (.slice xp xn xc) := HZ.out.2.1.cell 4
            have z0 : wz.cell? ⟨w.heap.size + 1 + 1, 0, none⟩ = some (.bool gf) := HB6.out.cell 0
            have z1 : wz.cell? ⟨w.heap.size + 1 + 1, 1, none⟩ = some (.string glo) := HB6.out.cell 1
            have z2 : wz.cell? ⟨w.heap.size + 1 + 1, 2, none⟩ = some (.string ghi) := HB6.out.cell 2
            have z3 : wz.cell? ⟨w.heap.size + 1 + 1, 3, none⟩ = some (.int .i64 gr) := HB6.out.cell 3
            have z4 : wz.cell? ⟨w.heap.size + 1 + 1, 4, none⟩ = some (.slice gp gn gc) := HB6.out.cell 4
            have y0 : wz.frozen? ⟨w.heap.size + 1 + 1, 0, none⟩ = false := HB6.out.frozen 0
            have y1 : wz.frozen? ⟨w.heap.size + 1 + 1, 1, none⟩ = false := HB6.out.frozen 1
            have y2 : wz.frozen? ⟨w.heap.size + 1 + 1, 2, none⟩ = false := HB6.out.frozen 2
            have y3 : wz.frozen? ⟨w.heap.size + 1 + 1, 3, none⟩ = false := HB6.out.frozen 3
            have y4 : wz.frozen? ⟨w.heap.size + 1 + 1, 4, none⟩ = false := HB6.out.frozen 4
            have HN : Hid (Fd w (put5 wz (w.heap.size + 1 + 1) (.bool xf) (.string xlo) (.string xhi) (.int .i64 xr) (.slice xp xn xc)) ⟨xf, xlo, xhi, xr, xl⟩ xp xn xc) := by
              have ht : Tn [w.heap.size + 1 + 1] wz _ := (Tn.refl _ _).five (R := w.heap.size + 1 + 1) (.inl (by simp)) (.bool xf) (.string xlo) (.string xhi) (.int .i64 xr) (.slice xp xn xc)
              exact ⟨HBZ.out.trans (ht.below HBZ.out.size (by simp; omega)), HB4.out.tn ht (by simp), Bk.five HB6.out _ _ _ _ _, HZ.out.2.2.tn ht HB6.out⟩
            clear HI HZ HB4 HB6
            go_wp2
            go_roundw
            case rel => exact ⟨k, ⟨xf, xlo, xhi, xr, xl⟩, xp, xn, xc, by omega, by first | rfl | go_num, HN.out, HNX.out⟩
            case measure => simp [intOf]; try omega
          · have hne : (err != 0) = true := by simpa using he
            have z0 : wz.cell? ⟨w.heap.size + 1, 0, none⟩ = some (.bool false) := HB4.out.cell 0
            have z1 : wz.cell? ⟨w.heap.size + 1, 1, none⟩ = some (.string ⟨#[]⟩) := HB4.out.cell 1
            have z2 : wz.cell? ⟨w.heap.size + 1, 2, none⟩ = some (.string ⟨#[]⟩) := HB4.out.cell 2
            have z3 : wz.cell? ⟨w.heap.size + 1, 3, none⟩ = some (.int .i64 0) := HB4.out.cell 3
            have z4 : wz.cell? ⟨w.heap.size + 1, 4, none⟩ = some (.slice none 0 0) := HB4.out.cell 4
            have y0 : wz.frozen? ⟨w.heap.size + 1, 0, none⟩ = false := HB4.out.frozen 0
            have y1 : wz.frozen? ⟨w.heap.size + 1, 1, none⟩ = false := HB4.out.frozen 1
            have y2 : wz.frozen? ⟨w.heap.size + 1, 2, none⟩ = false := HB4.out.frozen 2
            have y3 : wz.frozen? ⟨w.heap.size + 1, 3, none⟩ = false := HB4.out.frozen 3
            have y4 : wz.frozen? ⟨w.heap.size + 1, 4, none⟩ = false := HB4.out.frozen 4
            have HFE : Hid (FO = (Pg.zero, err)) := HFS.out he
            clear HI HZ HB6
            go_wp2
            have k1 := Bk.five HB4.out (.bool false) (.string ⟨#[]⟩) (.string ⟨#[]⟩) (.int .i64 0) (.slice none 0 0)
            have ht : Tn [w.heap.size + 1] wz _ := (Tn.refl _ _).five (R := w.heap.size + 1) (.inl (by simp)) (.bool false) (.string ⟨#[]⟩) (.string ⟨#[]⟩) (.int .i64 0) (.slice none 0 0)
            have hz := HBZ.out.trans (ht.below HBZ.out.size (by simp))
            refine bodyPost_ret (results_two (T' := 24) (cs := [.bool false, .string ⟨#[]⟩, .string ⟨#[]⟩, .int .i64 0, .slice none 0 0]) rfl rfl pg_agg pg_size rfl k1) rfl ?_
            rw [HFE.out]
            exact ⟨_, rfl, ⟨none, 0, rfl, Ens.nil _ _, fun _ => ⟨rfl, rfl⟩, Nat.le_refl _⟩, hz⟩
      · as_aux_lemma =>
          have HK9 : Hid (∀ a w, _ → K a w) := hK
          clear hK
          go_simp
          obtain ⟨Xb, hXb⟩ : ∃ Xb, wd.heap.size = Xb := ⟨_, rfl⟩
          obtain ⟨w0, hW2⟩ : ∃ w0, w0 = wd.alloc (.cells zc 24) := ⟨_, rfl⟩
          have hal : Below wd.heap.size wd w0 := by rw [hW2]; exact (Below.refl _ _).alloc (Nat.le_refl _) _
          have hkx : Bk w0 Xb 24 zc := by rw [hW2, ← hXb]; exact Bk.new _ _ _
          have hgx : wr.heap.size ≤ Xb := by rw [← hXb]; exact hB.size
          have hB0 := hB
          have hB : Below wr.heap.size wr w0 := hB0.trans (hal.mono hB0.size)
          clear hal hB0
          refine HK9.out _ _ ⟨fun _ => (by have h9 := hB; rw [hW2] at h9; exact h9), ?_⟩
          clear HK9 K
          try simp only [Act.put, List.setIfInBounds_toArray, List.set_cons_zero, List.set_cons_succ]
          rw [hXb, ← hW2]
          clear hW2 hXb
          refine wpAnyM_ready (rs := [5]) (by kernel_rfl) (by simp) ?_
          refine AllReadyM.cons (o := { dst := some 24, op := Op.call { callee := Callee.value (Operand.func 24), args := #[Operand.tmp 19, Operand.tmp 23], argTypes := #[24, 32] }, type := 35, pos := _, after := #[{ on := 0, ground := Ground.data }, { on := 4, ground := Ground.data }], guard := none }) rfl (fun K hK => ?_) AllReadyM.nil
          have HK9 : Hid (∀ a w, _ → K a w) := hK
          clear hK
          go_simp
          refine Calls.mono (HAP.out _ hB) ?_
          rintro e w1 ⟨xp, xc, rfl, hx1, hb1⟩
          have HX1 : Hid (XP w1 xp xn xc xl) := hx1
          have hB0 := hB
          have hB : Below wr.heap.size wr w1 := hB0.trans (hb1.mono hB0.size)
          have hkx := hkx.below hb1 hkx.lt
          clear hB0 hb1
          refine HK9.out _ _ ⟨fun _ => hB, ?_⟩
          clear HK9 K
          try simp only [Act.put, List.setIfInBounds_toArray, List.set_cons_zero, List.set_cons_succ]
          refine wpAnyM_take (i := 6) [] (oi := { dst := some 18, op := Op.move (Operand.tmp 24), type := 35, pos := _, after := #[{ on := 5, ground := Ground.data }], guard := none }) (v := .tuple #[.agg #[.bool xf, .string xlo, .string xhi, .int .i64 xr, .slice xp xn xc], .int .i64 err]) rfl (by kernel_rfl) (by kernel_rfl) (by kernel_rfl) (by kernel_rfl) (fun _ _ _ h => h) (Or.inl ⟨by rfl, ?_⟩) hB ?_
          · (intro w' hSw; skip; go_simp; try with_reducible rfl)
          try simp only [Act.put, List.setIfInBounds_toArray, List.set_cons_zero, List.set_cons_succ]
          refine wpAnyM_take (i := 7) [] (oi := { dst := some 25, op := Op.extract (Operand.tmp 18) 0, type := 24, pos := _, after := #[{ on := 6, ground := Ground.data }], guard := none }) (v := .agg #[.bool xf, .string xlo, .string xhi, .int .i64 xr, .slice xp xn xc]) rfl (by kernel_rfl) (by kernel_rfl) (by kernel_rfl) (by kernel_rfl) (fun _ _ _ h => h) (Or.inl ⟨by rfl, ?_⟩) hB ?_
          · (intro w' hSw; skip; go_simp; try with_reducible rfl)
          try simp only [Act.put, List.setIfInBounds_toArray, List.set_cons_zero, List.set_cons_succ]
          refine wpAnyM_take (i := 8) [] (oi := { dst := some 26, op := Op.extract (Operand.tmp 18) 1, type := 34, pos := _, after := #[{ on := 6, ground := Ground.data }, { on := 10, ground := Ground.gcOnly Departure.lateStores }], guard := none }) (v := .int .i64 err) rfl (by kernel_rfl) (by kernel_rfl) (by kernel_rfl) (by kernel_rfl) (fun _ _ _ h => h) (Or.inl ⟨by rfl, ?_⟩) hB ?_
          · (intro w' hSw; skip; go_simp; try with_reducible rfl)
          try simp only [Act.put, List.setIfInBounds_toArray, List.set_cons_zero, List.set_cons_succ]
          have z0 : w1.cell? ⟨Xb, 0, none⟩ = some (.bool false) := hkx.cell 0
          have z1 : w1.cell? ⟨Xb, 1, none⟩ = some (.string ⟨#[]⟩) := hkx.cell 1
          have z2 : w1.cell? ⟨Xb, 2, none⟩ = some (.string ⟨#[]⟩) := hkx.cell 2
          have z3 : w1.cell? ⟨Xb, 3, none⟩ = some (.int .i64 0) := hkx.cell 3
          have z4 : w1.cell? ⟨Xb, 4, none⟩ = some (.slice none 0 0) := hkx.cell 4
          have y0 : w1.frozen? ⟨Xb, 0, none⟩ = false := hkx.frozen 0
          have y1 : w1.frozen? ⟨Xb, 1, none⟩ = false := hkx.frozen 1
          have y2 : w1.frozen? ⟨Xb, 2, none⟩ = false := hkx.frozen 2
          have y3 : w1.frozen? ⟨Xb, 3, none⟩ = false := hkx.frozen 3
          have y4 : w1.frozen? ⟨Xb, 4, none⟩ = false := hkx.frozen 4
          refine wpAnyM_ready (rs := [10]) (by kernel_rfl) (by simp) ?_
          refine AllReadyM.cons (o := { dst := none, op := Op.store 24 (Operand.tmp 8) (Operand.tmp 25), type := 0, pos := _, after := #[{ on := 9, ground := Ground.data }, { on := 7, ground := Ground.data }, { on := 5, ground := Ground.chain }, { on := 0, ground := Ground.phase }, { on := 1, ground := Ground.phase }, { on := 2, ground := Ground.phase }, { on := 3, ground := Ground.phase }, { on := 4, ground := Ground.phase }, { on := 5, ground := Ground.phase }, { on := 6, ground := Ground.phase }, { on := 7, ground := Ground.phase }, { on := 8, ground := Ground.textOnly Departure.lateStores }, { on := 9, ground := Ground.phase }], guard := none }) rfl (fun K hK => ?_) AllReadyM.nil
          have HK9 : Hid (∀ a w, _ → K a w) := hK
          clear hK
          go_simp
          refine HK9.out _ _ ⟨fun _ => hB.trans (((Tn.refl [Xb] w1).five (.inl (by simp)) _ _ _ _ _).below hB.size (by simpa using hgx)), ?_⟩
          clear HK9 K
          try simp only [Act.put, List.setIfInBounds_toArray, List.set_cons_zero, List.set_cons_succ]
          refine wpAnyM_ready (rs := [11]) (by kernel_rfl) (by simp) ?_
          refine AllReadyM.cons (o := { dst := some 9, op := Op.assign (Operand.tmp 26), type := 34, pos := _, after := #[{ on := 8, ground := Ground.data }, { on := 10, ground := Ground.chain }, { on := 0, ground := Ground.phase }, { on := 1, ground := Ground.phase }, { on := 2, ground := Ground.phase }, { on := 3, ground := Ground.phase }, { on := 4, ground := Ground.phase }, { on := 5, ground := Ground.phase }, { on := 6, ground := Ground.phase }, { on := 7, ground := Ground.phase }, { on := 8, ground := Ground.phase }, { on := 9, ground := Ground.phase }, { on := 10, ground := Ground.phase }], guard := none }) rfl (fun K hK => ?_) AllReadyM.nil
          have HK9 : Hid (∀ a w, _ → K a w) := hK
          clear hK
          go_simp
          refine HK9.out _ _ ⟨fun h => absurd h (by omega), ?_⟩
          clear HK9 K
          try simp only [Act.put, List.setIfInBounds_toArray, List.set_cons_zero, List.set_cons_succ]
          refine wpAnyM_done (by kernel_rfl) ?_ _
          obtain ⟨wz, hwz⟩ : ∃ wz, wz = put5 w1 Xb (.bool xf) (.string xlo) (.string xhi) (.int .i64 xr) (.slice xp xn xc) := ⟨_, rfl⟩
          have ht : Tn [Xb] w1 wz := by rw [hwz]; exact (Tn.refl _ _).five (.inl (by simp)) _ _ _ _ _
          have hkz : Bk wz Xb 24 #[.bool xf, .string xlo, .string xhi, .int .i64 xr, .slice xp xn xc] := by rw [hwz]; exact Bk.five hkx _ _ _ _ _
          have HZ : Hid (Below wr.heap.size wr wz ∧ Bk wz Xb 24 #[.bool xf, .string xlo, .string xhi, .int .i64 xr, .slice xp xn xc] ∧ XP wz xp xn xc xl) := ⟨hB.trans (ht.below hB.size (by simpa using hgx)), hkz, HX1.out.tn ht hkx⟩
          unfold put5 at hwz
          rw [← hwz]
          clear hwz ht hkz hkx hB HX1 z0 z1 z2 z3 z4 y0 y1 y2 y3 y4
          have HG9 : Hid (wr.heap.size ≤ Xb) := hgx
          have HB4 : Hid (Bk wz (w.heap.size + 1) 24 zc) := HI.out.1.b4.below HZ.out.1 HI.out.1.b4.lt
          have HB6 : Hid (Bk wz (w.heap.size + 1 + 1) 24 #[.bool gf, .string glo, .string ghi, .int .i64 gr, .slice gp gn gc]) := HI.out.1.b6.below HZ.out.1 HI.out.1.b6.lt
          have HBZ : Hid (Below w.heap.size w wz) := HI.out.1.bel.trans (HZ.out.1.mono HI.out.1.bel.size)
          clear hgx HAP HCD HCG
          by_cases he : err = 0
          · subst he
            have c0 : wz.cell? ⟨Xb, 0, none⟩ = some (.bool xf) := HZ.out.2.1.cell 0
            have c1 : wz.cell? ⟨Xb, 1, none⟩ = some (.string xlo) := HZ.out.2.1.cell 1
            have c2 : wz.cell? ⟨Xb, 2, none⟩ = some (.string xhi) := HZ.out.2.1.cell 2
            have c3 : wz.cell? ⟨Xb, 3, none⟩ = some (.int .i64 xr) := HZ.out.2.1.cell 3
            have c4 : wz.cell? ⟨Xb, 4, none⟩ = some (.slice xp xn xc) := HZ.out.2.1.cell 4
            have z0 : wz.cell? ⟨w.heap.size + 1 + 1, 0, none⟩ = some (.bool gf) := HB6.out.cell 0
            have z1 : wz.cell? ⟨w.heap.size + 1 + 1, 1, none⟩ = some (.string glo) := HB6.out.cell 1
            have z2 : wz.cell? ⟨w.heap.size + 1 + 1, 2, none⟩ = some (.string ghi) := HB6.out.cell 2
            have z3 : wz.cell? ⟨w.heap.size + 1 + 1, 3, none⟩ = some (.int .i64 gr) := HB6.out.cell 3
            have z4 : wz.cell? ⟨w.heap.size + 1 + 1, 4, none⟩ = some (.slice gp gn gc) := HB6.out.cell 4
            have y0 : wz.frozen? ⟨w.heap.size + 1 + 1, 0, none⟩ = false := HB6.out.frozen 0
            have y1 : wz.frozen? ⟨w.heap.size + 1 + 1, 1, none⟩ = false := HB6.out.frozen 1
            have y2 : wz.frozen? ⟨w.heap.size + 1 + 1, 2, none⟩ = false := HB6.out.frozen 2
            have y3 : wz.frozen? ⟨w.heap.size + 1 + 1, 3, none⟩ = false := HB6.out.frozen 3
            have y4 : wz.frozen? ⟨w.heap.size + 1 + 1, 4, none⟩ = false := HB6.out.frozen 4
            have HN : Hid (Fd w (put5 wz (w.heap.size + 1 + 1) (.bool xf) (.string xlo) (.string xhi) (.int .i64 xr) (.slice xp xn xc)) ⟨xf, xlo, xhi, xr, xl⟩ xp xn xc) := by
              have ht : Tn [w.heap.size + 1 + 1] wz _ := (Tn.refl _ _).five (R := w.heap.size + 1 + 1) (.inl (by simp)) (.bool xf) (.string xlo) (.string xhi) (.int .i64 xr) (.slice xp xn xc)
              exact ⟨HBZ.out.trans (ht.below HBZ.out.size (by simp; omega)), HB4.out.tn ht (by simp), Bk.five HB6.out _ _ _ _ _, HZ.out.2.2.tn ht HB6.out⟩
            clear HI HZ HB4 HB6
            go_wp2
            go_roundw
            case rel => exact ⟨k, ⟨xf, xlo, xhi, xr, xl⟩, xp, xn, xc, by omega, by first | rfl | go_num, HN.out, HNX.out⟩
            case measure => simp [intOf]; try omega
          · have hne : (err != 0) = true := by simpa using he
            have z0 : wz.cell? ⟨w.heap.size + 1, 0, none⟩ = some (.bool false) := HB4.out.cell 0
            have z1 : wz.cell? ⟨w.heap.size + 1, 1, none⟩ = some (.string ⟨#[]⟩) := HB4.out.cell 1
            have z2 : wz.cell? ⟨w.heap.size + 1, 2, none⟩ = some (.string ⟨#[]⟩) := HB4.out.cell 2
            have z3 : wz.cell? ⟨w.heap.size + 1, 3, none⟩ = some (.int .i64 0) := HB4.out.cell 3
            have z4 : wz.cell? ⟨w.heap.size + 1, 4, none⟩ = some (.slice none 0 0) := HB4.out.cell 4
            have y0 : wz.frozen? ⟨w.heap.size + 1, 0, none⟩ = false := HB4.out.frozen 0
            have y1 : wz.frozen? ⟨w.heap.size + 1, 1, none⟩ = false := HB4.out.frozen 1
            have y2 : wz.frozen? ⟨w.heap.size + 1, 2, none⟩ = false := HB4.out.frozen 2
            have y3 : wz.frozen? ⟨w.heap.size + 1, 3, none⟩ = false := HB4.out.frozen 3
            have y4 : wz.frozen? ⟨w.heap.size + 1, 4, none⟩ = false := HB4.out.frozen 4
            have HFE : Hid (FO = (Pg.zero, err)) := HFS.out he
            clear HI HZ HB6
            go_wp2
            have k1 := Bk.five HB4.out (.bool false) (.string ⟨#[]⟩) (.string ⟨#[]⟩) (.int .i64 0) (.slice none 0 0)
            have ht : Tn [w.heap.size + 1] wz _ := (Tn.refl _ _).five (R := w.heap.size + 1) (.inl (by simp)) (.bool false) (.string ⟨#[]⟩) (.string ⟨#[]⟩) (.int .i64 0) (.slice none 0 0)
            have hz := HBZ.out.trans (ht.below HBZ.out.size (by simp))
            refine bodyPost_ret (results_two (T' := 24) (cs := [.bool false, .string ⟨#[]⟩, .string ⟨#[]⟩, .int .i64 0, .slice none 0 0]) rfl rfl pg_agg pg_size rfl k1) rfl ?_
            rw [HFE.out]
            exact ⟨_, rfl, ⟨none, 0, rfl, Ens.nil _ _, fun _ => ⟨rfl, rfl⟩, Nat.le_refl _⟩, hz⟩

end Go.Proofs.YthpilennljpamaaGreat

namespace Go.Proofs.YthpilennljpamaaGreat
open Go.RowKit
set_option linter.unusedVariables false
set_option linter.unusedSimpArgs false

namespace Dl
open Rs

/-- Entries that rise, each in the page's range. -/
structure Iv (g : Pp) : Prop where
  pw : Pw g.l
  inn : ∀ x ∈ g.l, Ky.inn ⟨g.lo, g.hi⟩ x.key = true
  ne : g.hi = .empty ∨ Ky.lt g.lo g.hi = true

theorem emp_not {r : Rg} (h : Ky.emp r = false) : r.hi = .empty ∨ Ky.lt r.lo r.hi = true := by
  unfold Ky.emp Ky.below at h
  rw [Ky.nil_eq] at h
  simp at h
  rcases Classical.em (r.hi = .empty) with h1 | h1
  · exact .inl h1
  · refine .inr ?_
    simpa [h1] using h

theorem iv_may {g : Pp} (h : Pg.may g.leaf ⟨g.lo, g.hi⟩ g.r g.l = true) : Iv g := by
  obtain ⟨h1, h2, h3, h4⟩ := Pg.may_parts h
  obtain ⟨hr, hm⟩ := Pg.fits_iff.1 h2
  exact ⟨Pg.ris_pair.1 hr, fun x hx => (hm x hx).1, emp_not h1⟩

theorem find_ext {a b : List En} {key : ByteArray} (hb : Pw b) (h : ∀ x : En, x.key = key → (x ∈ a ↔ x ∈ b)) : Pg.find true a key = Pg.find true b key := by
  rw [Pg.find_leaf, Pg.find_leaf]
  cases ha : a.find? (Pg.is key) with
  | some x =>
    have hx := List.mem_of_find?_eq_some ha
    have hk := is_iff.1 (List.find?_some ha)
    have hxb := (h x hk).1 hx
    cases hb' : b.find? (Pg.is key) with
    | some y =>
      have hy := List.mem_of_find?_eq_some hb'
      have hyk := is_iff.1 (List.find?_some hb')
      rw [uniq hb hxb hy (hk.trans hyk.symm)]
    | none =>
      have := List.find?_eq_none.1 hb' x hxb
      exact absurd (is_iff.2 hk) this
  | none =>
    cases hb' : b.find? (Pg.is key) with
    | some y =>
      have hy := List.mem_of_find?_eq_some hb'
      have hyk := is_iff.1 (List.find?_some hb')
      have := List.find?_eq_none.1 ha y ((h y hyk).2 hy)
      exact absurd (is_iff.2 hyk) this
    | none => rfl

theorem lt_le {a b c : ByteArray} (h : Ky.lt a b = true) (k : Ky.lt c b = false) : Ky.lt a c = true := by
  cases h9 : Ky.lt a c with
  | true => rfl
  | false =>
    cases h8 : Ky.lt c a with
    | true => rw [Ky.lt_trans h8 h] at k; cases k
    | false => rw [Ky.lt_total h9 h8] at h; rw [h] at k; cases k

theorem key_eq {a b : ByteArray} : (a.toList == b.toList) = true ↔ a = b := by
  rw [beq_iff_eq]
  exact ⟨fun h => Ky.toList_inj h, fun h => by rw [h]⟩

theorem inn_and {r : Rg} {k : ByteArray} : Ky.inn r k = true ↔ Ky.lt k r.lo = false ∧ (r.hi = .empty ∨ Ky.lt k r.hi = true) := by
  rw [Pg.inn_iff]
  simp

theorem says_of {g : Pp} (hg : Iv g) (key : ByteArray) : ∀ (ds : List De) (G : Pp), fo g ds.reverse = (G, 0) → Iv G ∧ (Ky.inn ⟨G.lo, G.hi⟩ key = true → ∀ x : En, x.key = key → (x ∈ say g.l key ds ↔ x ∈ G.l)) := by
  intro ds
  induction ds with
  | nil =>
    intro G h
    have e : fo g [] = (g, 0) := rfl
    rw [List.reverse_nil, e] at h
    cases h
    exact ⟨hg, fun _ x _ => Iff.rfl⟩
  | cons d r ih =>
    intro G h
    rw [List.reverse_cons, fo_snoc] at h
    obtain ⟨⟨G', c⟩, hG'⟩ : ∃ A, fo g r.reverse = A := ⟨_, rfl⟩
    rw [hG'] at h
    have hc : c = 0 := by
      by_cases h0 : c = 0
      · exact h0
      · have : ap (G', c) d = (G', c) := by unfold ap; rw [if_neg h0]
        rw [this] at h
        cases h
        rfl
    subst hc
    have h2 : apply G' d = (G, 0) := h
    obtain ⟨hI, hS⟩ := ih G' hG'
    obtain ⟨hm, h5⟩ := apply_ok (g := G') (d := d) (by rw [h2])
    rcases may_kind hm with hk | hk | hk | hk | hk
    · have ha := apply_chg G' (d := d) (.inl hk)
      rw [h2, if_pos hm] at ha
      by_cases hin : Ky.inn ⟨G'.lo, G'.hi⟩ (nk d) = true
      · rw [if_pos hin] at ha
        cases ha
        have hnk : nk d = d.e.key := by unfold nk; rw [if_pos hk]
        refine ⟨⟨chg_pw hI.pw d, fun x hx => ?_, hI.ne⟩, fun hkey x hx => ?_⟩
        · rcases (chg_mem hI.pw d x).1 hx with ⟨_, rfl⟩ | ⟨h1, _⟩
          · rw [hnk] at hin; exact hin
          · exact hI.inn x h1
        · have e2 : (d.k == 2) = false := by rw [hk]; rfl
          have e4 : (d.k == 4) = false := by rw [hk]; rfl
          have e1 : (d.k == 1) = true := by rw [hk]; rfl
          show x ∈ say g.l key (d :: r) ↔ x ∈ chg G'.l d
          rw [chg_mem hI.pw d x]
          unfold say
          simp only [e1, e2, e4, Bool.true_and, Bool.false_and]
          by_cases hke : d.e.key = key
          · rw [if_pos (key_eq.2 hke)]
            simp only [List.mem_singleton]
            constructor
            · intro h9; exact .inl ⟨hk, h9⟩
            · rintro (⟨_, h9⟩ | ⟨_, h9⟩)
              · exact h9
              · exact absurd (hx.trans (hke.symm.trans hnk.symm)) h9
          · rw [if_neg (fun h9 => hke (key_eq.1 h9)), if_neg (by simp), if_neg (by simp)]
            rw [hS hkey x hx]
            constructor
            · intro h9; exact .inr ⟨h9, fun h8 => hke (hnk.symm.trans (h8.symm.trans hx))⟩
            · rintro (⟨_, rfl⟩ | ⟨h9, _⟩)
              · exact absurd hx hke
              · exact h9
      · rw [if_neg hin] at ha
        cases ha
    · have ha := apply_chg G' (d := d) (.inr hk)
      rw [h2, if_pos hm] at ha
      by_cases hin : Ky.inn ⟨G'.lo, G'.hi⟩ (nk d) = true
      · rw [if_pos hin] at ha
        cases ha
        have hk1 : d.k ≠ 1 := by rw [hk]; decide
        have hnk : nk d = d.key := by unfold nk; rw [if_neg hk1]
        refine ⟨⟨chg_pw hI.pw d, fun x hx => ?_, hI.ne⟩, fun hkey x hx => ?_⟩
        · rcases (chg_mem hI.pw d x).1 hx with ⟨h1, _⟩ | ⟨h1, _⟩
          · exact absurd h1 hk1
          · exact hI.inn x h1
        · have e2 : (d.k == 2) = true := by rw [hk]; rfl
          have e4 : (d.k == 4) = false := by rw [hk]; rfl
          have e1 : (d.k == 1) = false := by rw [hk]; rfl
          show x ∈ say g.l key (d :: r) ↔ x ∈ chg G'.l d
          rw [chg_mem hI.pw d x]
          unfold say
          simp only [e1, e2, e4, Bool.true_and, Bool.false_and]
          rw [if_neg (by simp)]
          by_cases hke : d.key = key
          · rw [if_pos (key_eq.2 hke)]
            constructor
            · intro h9; cases h9
            · rintro (⟨h9, _⟩ | ⟨_, h9⟩)
              · exact absurd h9 hk1
              · exact absurd (hx.trans (hke.symm.trans hnk.symm)) h9
          · rw [if_neg (fun h9 => hke (key_eq.1 h9)), if_neg (by simp)]
            rw [hS hkey x hx]
            constructor
            · intro h9; exact .inr ⟨h9, fun h8 => hke (hnk.symm.trans (h8.symm.trans hx))⟩
            · rintro (⟨h9, _⟩ | ⟨h9, _⟩)
              · exact absurd h9 hk1
              · exact h9
      · rw [if_neg hin] at ha
        cases ha
    · have e2 : (d.k == 2) = false := by rw [hk]; rfl
      have e4 : (d.k == 4) = false := by rw [hk]; rfl
      have e1 : (d.k == 1) = false := by rw [hk]; rfl
      have ha : apply G' d = if (Ky.lt G'.lo d.key && Ky.inn ⟨G'.lo, G'.hi⟩ d.key) = true then (upTo G' d.key d.pg, 0) else (Pg.zero, 90) := by
        unfold apply
        rw [if_pos hm, if_neg (by rw [hk]; decide), if_neg (by rw [hk]; decide), if_pos hk]
      rw [h2] at ha
      by_cases hin : (Ky.lt G'.lo d.key && Ky.inn ⟨G'.lo, G'.hi⟩ d.key) = true
      · rw [if_pos hin] at ha
        cases ha
        rw [Bool.and_eq_true] at hin
        obtain ⟨hlo, hin⟩ := hin
        obtain ⟨i1, i2⟩ := inn_and.1 hin
        have hne : d.key ≠ .empty := fun e => by rw [e, Ky.lt_empty] at hlo; cases hlo
        have hlow : ∀ k, Ky.lt k d.key = true → (G'.hi = .empty ∨ Ky.lt k G'.hi = true) := fun k hk' => i2.imp id fun h9 => Ky.lt_trans hk' h9
        refine ⟨⟨hI.pw.filter _, fun x hx => ?_, .inr hlo⟩, fun hkey x hx => ?_⟩
        · obtain ⟨h1, h3⟩ := List.mem_filter.1 hx
          exact inn_and.2 ⟨(inn_and.1 (hI.inn x h1)).1, .inr h3⟩
        · obtain ⟨k1, k2⟩ := inn_and.1 hkey
          have k3 : Ky.lt key d.key = true := by
            rcases k2 with k2 | k2
            · exact absurd k2 hne
            · exact k2
          have hkey' : Ky.inn ⟨G'.lo, G'.hi⟩ key = true := inn_and.2 ⟨k1, hlow key k3⟩
          show x ∈ say g.l key (d :: r) ↔ x ∈ G'.l.filter fun e => Ky.lt e.key d.key
          unfold say
          simp only [e1, e2, e4, Bool.false_and]
          rw [if_neg (by simp), if_neg (by simp), if_neg (by simp), hS hkey' x hx, List.mem_filter, hx]
          simp [k3]
      · rw [if_neg hin] at ha
        cases ha
    · have e2 : (d.k == 2) = false := by rw [hk]; rfl
      have e4 : (d.k == 4) = true := by rw [hk]; rfl
      have e1 : (d.k == 1) = false := by rw [hk]; rfl
      have ha : apply G' d = Pg.merge G' d.rt := by
        unfold apply
        rw [if_pos hm, if_neg (by rw [hk]; decide), if_neg (by rw [hk]; decide), if_neg (by rw [hk]; decide), if_pos hk]
      rw [h2] at ha
      unfold Pg.merge at ha
      have hmr : Pg.may d.rt.leaf ⟨d.rt.lo, d.rt.hi⟩ d.rt.r d.rt.l = true := by
        unfold may at hm
        rw [Bool.and_eq_true] at hm
        have h9 := hm.2
        unfold fits at h9
        rw [if_neg (by rw [hk]; decide), if_neg (by rw [hk]; decide), if_neg (by rw [hk]; decide), if_pos hk] at h9
        exact h9
      have hR := iv_may hmr
      by_cases hj : Pg.joins G' d.rt = true
      · rw [if_pos hj] at ha
        cases ha
        unfold Pg.joins at hj
        simp only [Bool.and_eq_true, Bool.not_eq_true'] at hj
        obtain ⟨j1, j2, j3⟩ := hj
        have hhi : G'.hi = d.rt.lo := key_eq.1 j3
        have hhn : G'.hi ≠ .empty := fun e => by rw [e] at j2; simp [Ky.empty_toList] at j2
        have hleft : ∀ x ∈ G'.l, Ky.lt x.key d.rt.lo = true := fun x hx => by
          rcases (inn_and.1 (hI.inn x hx)).2 with h9 | h9
          · exact absurd h9 hhn
          · rw [← hhi]; exact h9
        have hright : ∀ x ∈ d.rt.l, Ky.lt x.key d.rt.lo = false := fun x hx => (inn_and.1 (hR.inn x hx)).1
        have hll : Ky.lt G'.lo d.rt.lo = true := by
          rcases hI.ne with h9 | h9
          · exact absurd h9 hhn
          · rw [← hhi]; exact h9
        refine ⟨⟨?_, fun x hx => ?_, hR.ne.imp id fun h9 => Ky.lt_trans hll h9⟩, fun hkey x hx => ?_⟩
        · refine List.pairwise_append.2 ⟨hI.pw, hR.pw, fun a ha' b hb' => ?_⟩
          exact lt_le (hleft a ha') (hright b hb')
        · rcases List.mem_append.1 hx with hx | hx
          · exact inn_and.2 ⟨(inn_and.1 (hI.inn x hx)).1, hR.ne.imp id fun h9 => Ky.lt_trans (hleft x hx) h9⟩
          · refine inn_and.2 ⟨?_, (inn_and.1 (hR.inn x hx)).2⟩
            cases h9 : Ky.lt x.key G'.lo with
            | false => rfl
            | true =>
              have := Ky.lt_trans h9 hll
              rw [hright x hx] at this
              cases this
        · show x ∈ say g.l key (d :: r) ↔ x ∈ G'.l ++ d.rt.l
          unfold say
          simp only [e1, e2, e4, Bool.false_and, Bool.true_and]
          rw [if_neg (by simp), if_neg (by simp), List.mem_append]
          obtain ⟨k1, k2⟩ := inn_and.1 hkey
          by_cases hkr : Ky.inn ⟨d.rt.lo, d.rt.hi⟩ key = true
          · rw [if_pos hkr]
            constructor
            · intro h9; exact .inr h9
            · rintro (h9 | h9)
              · have := hleft x h9
                rw [hx, (inn_and.1 hkr).1] at this
                cases this
              · exact h9
          · rw [if_neg hkr]
            have k3 : Ky.lt key d.rt.lo = true := by
              cases h9 : Ky.lt key d.rt.lo with
              | true => rfl
              | false => exact absurd ((inn_and (r := ⟨d.rt.lo, d.rt.hi⟩)).2 ⟨h9, k2⟩) hkr
            have hkey' : Ky.inn ⟨G'.lo, G'.hi⟩ key = true := inn_and.2 ⟨k1, .inr (by rw [hhi]; exact k3)⟩
            rw [hS hkey' x hx]
            constructor
            · intro h9; exact .inl h9
            · rintro (h9 | h9)
              · exact h9
              · have := hright x h9
                rw [hx, k3] at this
                cases this
      · rw [if_neg hj] at ha
        cases ha
    · exact absurd hk h5

/-- What the document's Look says, of the folded page. -/
def rlook (ds : List De) (key : ByteArray) (F : Pp × Int) : Sp × Int :=
  match gone ds with
  | some n => (⟨En.zero, false, n⟩, 0)
  | none =>
    if F.2 ≠ 0 then (Sp.zero, F.2)
    else if Ky.lt key F.1.lo = true then (Sp.zero, 73)
    else if Ky.inn ⟨F.1.lo, F.1.hi⟩ key = false then (if (F.1.r == 0) = true then (Sp.zero, 73) else (⟨En.zero, false, F.1.r⟩, 0))
    else if F.1.leaf = true then hitL (Pg.find true F.1.l key) else hitI (Pg.fnd false F.1.l key)

theorem look_eq (g : Pp) (key : ByteArray) (ds : List De) : look g key ds (entsL g.l ds.reverse) = rlook ds key (fo g ds.reverse) := by
  unfold look rlook
  cases gone ds with
  | some n => rfl
  | none =>
    simp only
    rw [outl_fo]
    obtain ⟨⟨G, c⟩, hG⟩ : ∃ A, fo g ds.reverse = A := ⟨_, rfl⟩
    rw [hG]
    unfold says
    simp only
    by_cases hc : c = 0
    · subst hc
      rw [if_neg (show ¬ ((0 : Int) ≠ 0) by simp), if_neg (show ¬ ((0 : Int) ≠ 0) by simp)]
      have hel : G.l = entsL g.l ds.reverse := by
        have := (fo_ok g ds.reverse (by rw [hG])).1
        rw [hG] at this
        exact this
      have e1 : (hd G).lo = G.lo := rfl
      have e2 : (hd G).hi = G.hi := rfl
      have e3 : (hd G).r = G.r := rfl
      have e4 : (hd G).leaf = G.leaf := rfl
      rw [e1, e2, e3, e4]
      cases hin : Ky.inn ⟨G.lo, G.hi⟩ key with
      | false =>
        rw [if_pos rfl]
        cases hlt : Ky.lt key G.lo with
        | true => simp
        | false => simp
      | true =>
        have hlt : Ky.lt key G.lo = false := (inn_and.1 hin).1
        rw [hlt]
        cases hl : G.leaf with
        | false =>
          simp only [Bool.true_eq_false, Bool.false_eq_true, if_false, if_true]
          rw [hel]
        | true =>
          simp only [Bool.true_eq_false, Bool.false_eq_true, if_false, if_true]
          congr 1
          unfold among
          split
          · rename_i hmay
            obtain ⟨hI, hS⟩ := says_of (iv_may hmay) key ds G hG
            exact find_ext hI.pw (hS hin)
          · rw [hel]
    · rw [if_pos hc, if_pos hc]

end Dl
end Go.Proofs.YthpilennljpamaaGreat

namespace Go.Proofs.YthpilennljpamaaGreat
open Go.RowKit Go.Sort
set_option linter.unusedVariables false
set_option maxRecDepth 100000

/-- What Gone answers. -/
abbrev goneV (o : Option Int) : Value := .tuple #[.int .i64 (o.getD 0), .bool o.isSome]

set_option maxHeartbeats 4000000 in
theorem rgone_any (p : Option Addr) (len cap : Nat) (L : List Dm) (w : World) (hL : L.length = len) (hD : Des w p L) :
    Calls Tryz.prog 38 #[.slice p len cap] w fun e w' => e = .returned (goneV (Dl.gone (L.map (·.d)))) ∧ Below w.heap.size w w' := by
  cases L with
  | nil =>
    simp at hL
    subst hL
    go_enter Tryz.func38, Tryz.ntmps38
    go_wp2
    go_ret2
    exact ⟨rfl, Below.refl _ _⟩
  | cons m r =>
    obtain ⟨b, o, rfl, hc⟩ := hD (by simp)
    obtain ⟨hcell, hok⟩ := hc 0 m rfl
    obtain ⟨n, rfl⟩ : ∃ n, len = n + 1 := ⟨r.length, by simpa using hL.symm⟩
    obtain ⟨⟨dk, ⟨dek, des, deg, dec⟩, dkey, dpg, ⟨dleaf, dlo, dhi, dr, dl⟩⟩, dp, dn, dc⟩ := m
    have hcell' : ∀ t v, ([.int .i64 dk, .string dek, .int .i64 des, .int .i64 deg, .int .i64 dec, .string dkey, .int .i64 dpg, .bool dleaf, .string dlo, .string dhi, .int .i64 dr, .slice dp dn dc] : List Value)[t]? = some v → w.cell? ⟨b, o + t, none⟩ = some v := fun t v h => by
      have := hcell t v h
      simpa using this
    have x0 : w.cell? ⟨b, o, none⟩ = some (.int .i64 dk) := hcell' 0 _ rfl
    have x1 : w.cell? ⟨b, o + 1, none⟩ = some (.string dek) := hcell' 1 _ rfl
    have x2 : w.cell? ⟨b, o + 2, none⟩ = some (.int .i64 des) := hcell' 2 _ rfl
    have x3 : w.cell? ⟨b, o + 3, none⟩ = some (.int .i64 deg) := hcell' 3 _ rfl
    have x4 : w.cell? ⟨b, o + 4, none⟩ = some (.int .i64 dec) := hcell' 4 _ rfl
    have x5 : w.cell? ⟨b, o + 5, none⟩ = some (.string dkey) := hcell' 5 _ rfl
    have x6 : w.cell? ⟨b, o + 6, none⟩ = some (.int .i64 dpg) := hcell' 6 _ rfl
    have x7 : w.cell? ⟨b, o + 7, none⟩ = some (.bool dleaf) := hcell' 7 _ rfl
    have x8 : w.cell? ⟨b, o + 8, none⟩ = some (.string dlo) := hcell' 8 _ rfl
    have x9 : w.cell? ⟨b, o + 9, none⟩ = some (.string dhi) := hcell' 9 _ rfl
    have x10 : w.cell? ⟨b, o + 10, none⟩ = some (.int .i64 dr) := hcell' 10 _ rfl
    have x11 : w.cell? ⟨b, o + 11, none⟩ = some (.slice dp dn dc) := hcell' 11 _ rfl
    have HCK : Hid _ := rdcheck_any ⟨dk, ⟨dek, des, deg, dec⟩, dkey, dpg, ⟨dleaf, dlo, dhi, dr, dl⟩⟩ dp dn dc w hok.len hok.ens (by have := hok.room; simp only at this; omega)
    have hlt : b < w.heap.size := World.block_lt_of_cell? w _ x0
    have HC : Hid (∀ W, Below w.heap.size w W → W.cell? ⟨b, o + 6, none⟩ = some (.int .i64 dpg)) := fun W hW => by
      have := Alike.cell (Alike.of_below hW) (b := b) (o := o + 6) hlt
      rw [this]; exact x6
    have hg : Dl.gone (List.map (·.d) ((⟨⟨dk, ⟨dek, des, deg, dec⟩, dkey, dpg, ⟨dleaf, dlo, dhi, dr, dl⟩⟩, dp, dn, dc⟩ : Dm) :: r)) = if (dk == 5) && Dl.may ⟨dk, ⟨dek, des, deg, dec⟩, dkey, dpg, ⟨dleaf, dlo, dhi, dr, dl⟩⟩ then some dpg else none := rfl
    rw [hg]
    obtain ⟨G, HG⟩ : ∃ G, Hid ((if (dk == 5) && Dl.may ⟨dk, ⟨dek, des, deg, dec⟩, dkey, dpg, ⟨dleaf, dlo, dhi, dr, dl⟩⟩ then some dpg else none) = G) := ⟨_, rfl⟩
    rw [HG.out]
    clear hg hcell hcell' hok hc hL hD
    have hn0 : ((n : Int) + 1 == 0) = false := by rw [beq_eq_false_iff_ne]; omega
    by_cases k5 : dk = 5
    · subst k5
      go_enter Tryz.func38, Tryz.ntmps38
      go_wp2_with fail
      refine Calls.mono HCK.out ?_
      rintro e w1 ⟨rfl, hb⟩
      have y6 := HC.out w1 hb
      cases hm : Dl.may ⟨5, ⟨dek, des, deg, dec⟩, dkey, dpg, ⟨dleaf, dlo, dhi, dr, dl⟩⟩ with
      | false =>
        simp only [Bool.false_eq_true, if_false]
        go_wp2
        go_ret2
        refine ⟨?_, hb⟩
        rw [show G = none by rw [← HG.out, hm]; rfl]
        rfl
      | true =>
        simp only [if_true]
        go_wp2
        go_ret2
        refine ⟨?_, hb⟩
        rw [show G = some dpg by rw [← HG.out, hm]; rfl]
        rfl
    · have h5 : (dk != 5) = true := by simpa using k5
      have h6 : (dk == 5) = false := by simpa using k5
      go_enter Tryz.func38, Tryz.ntmps38
      go_wp2
      go_ret2
      refine ⟨?_, Below.refl _ _⟩
      rw [show G = none by rw [← HG.out, h6]; rfl]
      rfl

end Go.Proofs.YthpilennljpamaaGreat

namespace Go.Proofs.YthpilennljpamaaGreat
open Go.RowKit Go.Sort
set_option linter.unusedVariables false
set_option linter.unusedSimpArgs false
set_option maxRecDepth 100000

set_option maxHeartbeats 16000000 in
theorem rlook_any (pf : Bool) (plo phi : ByteArray) (pr : Int) (pp : Option Addr) (pn pc : Nat) (pl : List En) (key : ByteArray) (p : Option Addr) (len cap : Nat) (L : List Dm) (w : World) (hx : XP w pp pn pc pl) (hL : L.length = len) (hll : len ≤ 1048576) (hD : Des w p L) (hrt : ∀ m ∈ L, m.n ≤ 1048576)
    (hfl : ∀ t, (Dl.fo ⟨pf, plo, phi, pr, pl⟩ ((L.map (·.d)).reverse.take t)).1.l.length ≤ 2000000000000) {se : En} {sf : Bool} {sg er : Int} (ho : Dl.rlook (L.map (·.d)) key (Dl.fo ⟨pf, plo, phi, pr, pl⟩ (L.map (·.d)).reverse) = (⟨se, sf, sg⟩, er)) :
    Calls Tryz.prog 19 #[.agg #[.bool pf, .string plo, .string phi, .int .i64 pr, .slice pp pn pc], .string key, .slice p len cap] w fun e w' => e = .returned (.tuple #[spv se sf sg, .int .i64 er]) ∧ Below w.heap.size w w' := by
  have HFD : Hid (∀ W, Below w.heap.size w W → Calls Tryz.prog 17 #[.agg #[.bool pf, .string plo, .string phi, .int .i64 pr, .slice pp pn pc], .slice p len cap] W fun e w' => ∃ v, e = .returned (.tuple #[v, .int .i64 (Dl.fo ⟨pf, plo, phi, pr, pl⟩ (L.map (·.d)).reverse).2]) ∧ Pat w' v (Dl.fo ⟨pf, plo, phi, pr, pl⟩ (L.map (·.d)).reverse).1 ∧ Below W.heap.size W w') := fun W hW => rfold_any pf plo phi pr pp pn pc pl p len cap L W (hx.below ⟨hW.os, hW.tape, hW.output, hW.size, hW.block⟩) hL hll (hD.below hW (Nat.le_refl _)) hrt hfl
  have HGN : Hid (∀ W, Below w.heap.size w W → Calls Tryz.prog 38 #[.slice p len cap] W fun e w' => e = .returned (goneV (Dl.gone (L.map (·.d)))) ∧ Below W.heap.size W w') := fun W hW => rgone_any p len cap L W hL (hD.below hW (Nat.le_refl _))
  have hlast : (Dl.fo ⟨pf, plo, phi, pr, pl⟩ (L.map (·.d)).reverse).1.l.length ≤ 2000000000000 := by
    have := hfl len
    rw [List.take_of_length_le (by simp [hL])] at this
    exact this
  obtain ⟨⟨⟨gf, glo, ghi, gr, gl⟩, err⟩, hfo⟩ : ∃ A, Dl.fo ⟨pf, plo, phi, pr, pl⟩ (L.map (·.d)).reverse = A := ⟨_, rfl⟩
  rw [hfo] at ho hlast HFD
  obtain ⟨go, hgo⟩ : ∃ go, Dl.gone (L.map (·.d)) = go := ⟨_, rfl⟩
  rw [hgo] at HGN
  unfold Dl.rlook at ho
  rw [hgo] at ho
  have HLL : Hid (gl.length ≤ 2000000000000) := hlast
  have HO : Hid _ := ho
  clear hx hL hD hrt hfl hfo hgo hlast ho
  obtain ⟨w0, hw0⟩ : ∃ w0, (w.alloc (.cells #[.bool pf, .string plo, .string phi, .int .i64 pr, .slice pp pn pc] 24)).alloc (.cells #[.string ⟨#[]⟩, .int .i64 0, .int .i64 0, .int .i64 0, .bool false, .int .i64 0] 44) = w0 := ⟨_, rfl⟩
  have HB0 : Hid (Below w.heap.size w w0) := by rw [← hw0]; exact ((Below.refl _ _).alloc (Nat.le_refl _) _).alloc (by simp) _
  have HP0 : Hid (Bk w0 w.heap.size 24 #[.bool pf, .string plo, .string phi, .int .i64 pr, .slice pp pn pc]) := by rw [← hw0]; exact (Bk.new _ _ _).alloc _
  have HS0 : Hid (Bk w0 (w.heap.size + 1) 44 #[.string ⟨#[]⟩, .int .i64 0, .int .i64 0, .int .i64 0, .bool false, .int .i64 0]) := by rw [← hw0]; exact Bk.new1 _ _ _ _
  go_enter Tryz.func19, Tryz.ntmps19
  go_wp2_with fail
  try rw [hw0]
  clear hw0
  refine Calls.mono (HGN.out _ HB0.out) ?_
  rintro e w1 ⟨rfl, hb1⟩
  have HB1 : Hid (Below w.heap.size w w1) := HB0.out.trans (hb1.mono HB0.out.size)
  have HP1 : Hid (Bk w1 w.heap.size 24 #[.bool pf, .string plo, .string phi, .int .i64 pr, .slice pp pn pc]) := HP0.out.below hb1 HP0.out.lt
  have HS1 : Hid (Bk w1 (w.heap.size + 1) 44 #[.string ⟨#[]⟩, .int .i64 0, .int .i64 0, .int .i64 0, .bool false, .int .i64 0]) := HS0.out.below hb1 HS0.out.lt
  clear hb1 HB0 HP0 HS0 HGN
  cases go with
  | some n =>
    have HE : Hid (se = En.zero ∧ sf = false ∧ sg = n ∧ er = 0) := by
      have h1 := HO.out
      simp only [Prod.mk.injEq, Sp.mk.injEq] at h1
      exact ⟨h1.1.1.symm, h1.1.2.1.symm, h1.1.2.2.symm, h1.2.symm⟩
    have z0 : w1.cell? ⟨w.heap.size + 1, 0, none⟩ = some (.string ⟨#[]⟩) := HS1.out.cell 0
    have z1 : w1.cell? ⟨w.heap.size + 1, 1, none⟩ = some (.int .i64 0) := HS1.out.cell 1
    have z2 : w1.cell? ⟨w.heap.size + 1, 2, none⟩ = some (.int .i64 0) := HS1.out.cell 2
    have z3 : w1.cell? ⟨w.heap.size + 1, 3, none⟩ = some (.int .i64 0) := HS1.out.cell 3
    have z4 : w1.cell? ⟨w.heap.size + 1, 4, none⟩ = some (.bool false) := HS1.out.cell 4
    have z5 : w1.cell? ⟨w.heap.size + 1, 5, none⟩ = some (.int .i64 0) := HS1.out.cell 5
    have y0 : w1.frozen? ⟨w.heap.size + 1, 0, none⟩ = false := HS1.out.frozen 0
    have y1 : w1.frozen? ⟨w.heap.size + 1, 1, none⟩ = false := HS1.out.frozen 1
    have y2 : w1.frozen? ⟨w.heap.size + 1, 2, none⟩ = false := HS1.out.frozen 2
    have y3 : w1.frozen? ⟨w.heap.size + 1, 3, none⟩ = false := HS1.out.frozen 3
    have y4 : w1.frozen? ⟨w.heap.size + 1, 4, none⟩ = false := HS1.out.frozen 4
    have y5 : w1.frozen? ⟨w.heap.size + 1, 5, none⟩ = false := HS1.out.frozen 5
    simp only [goneV]
    go_wp2
    have k1 := Bk.six HS1.out (.string ⟨#[]⟩) (.int .i64 0) (.int .i64 0) (.int .i64 0) (.bool false) (.int .i64 n)
    have ht : Tn [w.heap.size + 1] w1 _ := (Tn.refl _ _).six (R := w.heap.size + 1) (.inl (by simp)) (.string ⟨#[]⟩) (.int .i64 0) (.int .i64 0) (.int .i64 0) (.bool false) (.int .i64 n)
    have hz := HB1.out.trans (ht.below HB1.out.size (by simp))
    refine bodyPost_ret (results_two (T' := 44) (cs := [.string ⟨#[]⟩, .int .i64 0, .int .i64 0, .int .i64 0, .bool false, .int .i64 n]) rfl rfl sp_agg sp_size rfl k1) rfl ?_
    rw [HE.out.1, HE.out.2.1, HE.out.2.2.1, HE.out.2.2.2]
    exact ⟨rfl, hz⟩
  | none =>
    simp only [goneV]
    have a0 : w1.cell? ⟨w.heap.size, 0, none⟩ = some (.bool pf) := HP1.out.cell 0
    have a1 : w1.cell? ⟨w.heap.size, 1, none⟩ = some (.string plo) := HP1.out.cell 1
    have a2 : w1.cell? ⟨w.heap.size, 2, none⟩ = some (.string phi) := HP1.out.cell 2
    have a3 : w1.cell? ⟨w.heap.size, 3, none⟩ = some (.int .i64 pr) := HP1.out.cell 3
    have a4 : w1.cell? ⟨w.heap.size, 4, none⟩ = some (.slice pp pn pc) := HP1.out.cell 4
    go_wp2_with fail
    refine Calls.mono (HFD.out _ HB1.out) ?_
    rintro e w2 ⟨v, rfl, ⟨gp, gc, rfl, hens, hnil, hle⟩, hb2⟩
    clear a0 a1 a2 a3 a4
    obtain ⟨gn, hgn⟩ : ∃ gn, gl.length = gn := ⟨_, rfl⟩
    have HGL : Hid (gl.length = gn ∧ Ens w2 gp gl) := ⟨hgn, hens⟩
    have hgn' : (⟨gf, glo, ghi, gr, gl⟩ : Pp).l.length = gn := hgn
    simp only [hgn']
    obtain ⟨w3, hw3⟩ : ∃ w3, w2.alloc (.cells #[.bool gf, .string glo, .string ghi, .int .i64 gr, .slice gp gn gc] 24) = w3 := ⟨_, rfl⟩
    have hb3 : Below w2.heap.size w2 w3 := by rw [← hw3]; exact (Below.refl _ _).alloc (Nat.le_refl _) _
    obtain ⟨X, hX⟩ : ∃ X, w2.heap.size = X := ⟨_, rfl⟩
    have HK3 : Hid (Bk w3 X 24 #[.bool gf, .string glo, .string ghi, .int .i64 gr, .slice gp gn gc]) := by rw [← hw3, ← hX]; exact Bk.new _ _ _
    have HB3 : Hid (Below w.heap.size w w3) := by
      have h1 := HB1.out.trans (hb2.mono HB1.out.size)
      exact h1.trans (hb3.mono h1.size)
    have HS3 : Hid (Bk w3 (w.heap.size + 1) 44 #[.string ⟨#[]⟩, .int .i64 0, .int .i64 0, .int .i64 0, .bool false, .int .i64 0]) := (HS1.out.below hb2 HS1.out.lt).below hb3 (HS1.out.below hb2 HS1.out.lt).lt
    have HE3 : Hid (Ens w3 gp gl) := hens.below hb3 (Nat.le_refl _)
    have g0 : w3.cell? ⟨X, 0, none⟩ = some (.bool gf) := HK3.out.cell 0
    have g1 : w3.cell? ⟨X, 1, none⟩ = some (.string glo) := HK3.out.cell 1
    have g2 : w3.cell? ⟨X, 2, none⟩ = some (.string ghi) := HK3.out.cell 2
    have g3 : w3.cell? ⟨X, 3, none⟩ = some (.int .i64 gr) := HK3.out.cell 3
    have g4 : w3.cell? ⟨X, 4, none⟩ = some (.slice gp gn gc) := HK3.out.cell 4
    have z0 : w3.cell? ⟨w.heap.size + 1, 0, none⟩ = some (.string ⟨#[]⟩) := HS3.out.cell 0
    have z1 : w3.cell? ⟨w.heap.size + 1, 1, none⟩ = some (.int .i64 0) := HS3.out.cell 1
    have z2 : w3.cell? ⟨w.heap.size + 1, 2, none⟩ = some (.int .i64 0) := HS3.out.cell 2
    have z3 : w3.cell? ⟨w.heap.size + 1, 3, none⟩ = some (.int .i64 0) := HS3.out.cell 3
    have z4 : w3.cell? ⟨w.heap.size + 1, 4, none⟩ = some (.bool false) := HS3.out.cell 4
    have z5 : w3.cell? ⟨w.heap.size + 1, 5, none⟩ = some (.int .i64 0) := HS3.out.cell 5
    have y0 : w3.frozen? ⟨w.heap.size + 1, 0, none⟩ = false := HS3.out.frozen 0
    have y1 : w3.frozen? ⟨w.heap.size + 1, 1, none⟩ = false := HS3.out.frozen 1
    have y2 : w3.frozen? ⟨w.heap.size + 1, 2, none⟩ = false := HS3.out.frozen 2
    have y3 : w3.frozen? ⟨w.heap.size + 1, 3, none⟩ = false := HS3.out.frozen 3
    have y4 : w3.frozen? ⟨w.heap.size + 1, 4, none⟩ = false := HS3.out.frozen 4
    have y5 : w3.frozen? ⟨w.heap.size + 1, 5, none⟩ = false := HS3.out.frozen 5
    clear hens hnil hle hb2 hb3 HB1 HP1 HS1 HFD hgn hgn'
    by_cases he : err = 0
    · subst he
      have HO2 := HO.out
      simp only [ne_eq, not_true_eq_false, if_false] at HO2
      have HO3 : Hid _ := HO2
      clear HO2 HO
      by_cases hlt : Ky.lt key glo = true
      · have HE : Hid (se = En.zero ∧ sf = false ∧ sg = 0 ∧ er = 73) := by
          have h1 := HO3.out
          rw [if_pos hlt] at h1
          simp only [Sp.zero, Prod.mk.injEq, Sp.mk.injEq] at h1
          exact ⟨h1.1.1.symm, h1.1.2.1.symm, h1.1.2.2.symm, h1.2.symm⟩
        have hlt' : Op.bytesLess key.toList glo.toList = true := hlt
        clear hlt HO3
        go_wp2
        have k1 := Bk.six HS3.out (.string ⟨#[]⟩) (.int .i64 0) (.int .i64 0) (.int .i64 0) (.bool false) (.int .i64 0)
        have ht : Tn [w.heap.size + 1] w3 _ := (Tn.refl _ _).six (R := w.heap.size + 1) (.inl (by simp)) (.string ⟨#[]⟩) (.int .i64 0) (.int .i64 0) (.int .i64 0) (.bool false) (.int .i64 0)
        have hz := HB3.out.trans (ht.below HB3.out.size (by simp))
        refine bodyPost_ret (results_two (T' := 44) (cs := [.string ⟨#[]⟩, .int .i64 0, .int .i64 0, .int .i64 0, .bool false, .int .i64 0]) rfl rfl sp_agg sp_size rfl k1) rfl ?_
        rw [HE.out.1, HE.out.2.1, HE.out.2.2.1, HE.out.2.2.2]
        exact ⟨rfl, hz⟩
      · have hlf : Ky.lt key glo = false := by simpa using hlt
        have hlt' : Op.bytesLess key.toList glo.toList = false := hlf
        have HO4 := HO3.out
        rw [if_neg hlt] at HO4
        have HO5 : Hid _ := HO4
        clear HO4 HO3 hlt hlf
        have HHS : Hid (∀ W, Calls Tryz.prog 23 #[.agg #[.bool gf, .string glo, .string ghi, .int .i64 gr, .slice gp gn gc], .string key] W fun e w' => e = .returned (.bool (Ky.inn ⟨glo, ghi⟩ key)) ∧ Below W.heap.size W w') := fun W => rhas_any gf glo ghi gr gp gn gc W key
        obtain ⟨ib, hib⟩ : ∃ ib, Ky.inn ⟨glo, ghi⟩ key = ib := ⟨_, rfl⟩
        rw [hib] at HHS HO5
        clear hib
        go_wp2_with fail
        try rw [hX]
        refine Calls.mono (HHS.out _) ?_
        rintro e w4 ⟨rfl, hb4⟩
        clear hw3 hX
        clear g0 g1 g2 g3 g4 z0 z1 z2 z3 z4 z5 y0 y1 y2 y3 y4 y5
        have HB4 : Hid (Below w.heap.size w w4) := HB3.out.trans (hb4.mono HB3.out.size)
        have HK4 : Hid (Bk w4 X 24 #[.bool gf, .string glo, .string ghi, .int .i64 gr, .slice gp gn gc]) := HK3.out.below hb4 HK3.out.lt
        have HS4 : Hid (Bk w4 (w.heap.size + 1) 44 #[.string ⟨#[]⟩, .int .i64 0, .int .i64 0, .int .i64 0, .bool false, .int .i64 0]) := HS3.out.below hb4 HS3.out.lt
        have HE4 : Hid (Ens w4 gp gl) := HE3.out.below hb4 (Nat.le_refl _)
        clear hb4 HB3 HK3 HS3 HE3 HHS
        have g0 : w4.cell? ⟨X, 0, none⟩ = some (.bool gf) := HK4.out.cell 0
        have g1 : w4.cell? ⟨X, 1, none⟩ = some (.string glo) := HK4.out.cell 1
        have g2 : w4.cell? ⟨X, 2, none⟩ = some (.string ghi) := HK4.out.cell 2
        have g3 : w4.cell? ⟨X, 3, none⟩ = some (.int .i64 gr) := HK4.out.cell 3
        have g4 : w4.cell? ⟨X, 4, none⟩ = some (.slice gp gn gc) := HK4.out.cell 4
        have z0 : w4.cell? ⟨w.heap.size + 1, 0, none⟩ = some (.string ⟨#[]⟩) := HS4.out.cell 0
        have z1 : w4.cell? ⟨w.heap.size + 1, 1, none⟩ = some (.int .i64 0) := HS4.out.cell 1
        have z2 : w4.cell? ⟨w.heap.size + 1, 2, none⟩ = some (.int .i64 0) := HS4.out.cell 2
        have z3 : w4.cell? ⟨w.heap.size + 1, 3, none⟩ = some (.int .i64 0) := HS4.out.cell 3
        have z4 : w4.cell? ⟨w.heap.size + 1, 4, none⟩ = some (.bool false) := HS4.out.cell 4
        have z5 : w4.cell? ⟨w.heap.size + 1, 5, none⟩ = some (.int .i64 0) := HS4.out.cell 5
        have y0 : w4.frozen? ⟨w.heap.size + 1, 0, none⟩ = false := HS4.out.frozen 0
        have y1 : w4.frozen? ⟨w.heap.size + 1, 1, none⟩ = false := HS4.out.frozen 1
        have y2 : w4.frozen? ⟨w.heap.size + 1, 2, none⟩ = false := HS4.out.frozen 2
        have y3 : w4.frozen? ⟨w.heap.size + 1, 3, none⟩ = false := HS4.out.frozen 3
        have y4 : w4.frozen? ⟨w.heap.size + 1, 4, none⟩ = false := HS4.out.frozen 4
        have y5 : w4.frozen? ⟨w.heap.size + 1, 5, none⟩ = false := HS4.out.frozen 5
        cases ib with
        | false =>
          have HO6 := HO5.out
          simp only [if_true] at HO6
          have HO7 : Hid _ := HO6
          clear HO6 HO5
          by_cases hr : gr = 0
          · have HE : Hid (se = En.zero ∧ sf = false ∧ sg = 0 ∧ er = 73) := by
              have h1 := HO7.out
              rw [if_pos (by simpa using hr)] at h1
              simp only [Sp.zero, Prod.mk.injEq, Sp.mk.injEq] at h1
              exact ⟨h1.1.1.symm, h1.1.2.1.symm, h1.1.2.2.symm, h1.2.symm⟩
            have hrb : (gr == 0) = true := by simpa using hr
            clear hr HO7
            go_wp2
            have k1 := Bk.six HS4.out (.string ⟨#[]⟩) (.int .i64 0) (.int .i64 0) (.int .i64 0) (.bool false) (.int .i64 0)
            have ht : Tn [w.heap.size + 1] w4 _ := (Tn.refl _ _).six (R := w.heap.size + 1) (.inl (by simp)) (.string ⟨#[]⟩) (.int .i64 0) (.int .i64 0) (.int .i64 0) (.bool false) (.int .i64 0)
            have hz := HB4.out.trans (ht.below HB4.out.size (by simp))
            refine bodyPost_ret (results_two (T' := 44) (cs := [.string ⟨#[]⟩, .int .i64 0, .int .i64 0, .int .i64 0, .bool false, .int .i64 0]) rfl rfl sp_agg sp_size rfl k1) rfl ?_
            rw [HE.out.1, HE.out.2.1, HE.out.2.2.1, HE.out.2.2.2]
            exact ⟨rfl, hz⟩
          · have HE : Hid (se = En.zero ∧ sf = false ∧ sg = gr ∧ er = 0) := by
              have h1 := HO7.out
              rw [if_neg (by simpa using hr)] at h1
              simp only [Prod.mk.injEq, Sp.mk.injEq] at h1
              exact ⟨h1.1.1.symm, h1.1.2.1.symm, h1.1.2.2.symm, h1.2.symm⟩
            have hrb : (gr == 0) = false := by simpa using hr
            clear hr HO7
            go_wp2
            have k1 := Bk.six HS4.out (.string ⟨#[]⟩) (.int .i64 0) (.int .i64 0) (.int .i64 0) (.bool false) (.int .i64 gr)
            have ht : Tn [w.heap.size + 1] w4 _ := (Tn.refl _ _).six (R := w.heap.size + 1) (.inl (by simp)) (.string ⟨#[]⟩) (.int .i64 0) (.int .i64 0) (.int .i64 0) (.bool false) (.int .i64 gr)
            have hz := HB4.out.trans (ht.below HB4.out.size (by simp))
            refine bodyPost_ret (results_two (T' := 44) (cs := [.string ⟨#[]⟩, .int .i64 0, .int .i64 0, .int .i64 0, .bool false, .int .i64 gr]) rfl rfl sp_agg sp_size rfl k1) rfl ?_
            rw [HE.out.1, HE.out.2.1, HE.out.2.2.1, HE.out.2.2.2]
            exact ⟨rfl, hz⟩
        | true =>
          have HO6 := HO5.out
          simp only [Bool.true_eq_false, if_false] at HO6
          have HO7 : Hid _ := HO6
          clear HO6 HO5
          have HFN : Hid (∀ W, Ens W gp gl → Calls Tryz.prog 39 #[.agg #[.bool gf, .string glo, .string ghi, .int .i64 gr, .slice gp gn gc], .string key] W fun e w' => e = .returned (fv (Pg.fnd gf gl key)) ∧ Below W.heap.size W w') := fun W hW => by
            refine (rfind_any gf glo ghi gr gp gn gc gl key W HGL.out.1 hW (by have := HLL.out; have := HGL.out.1; omega)).mono ?_
            rintro e w' ⟨⟨o, rfl, ho⟩, hb⟩
            rw [Pg.Fnd.one ho (Pg.fnd_is gf gl key)]
            exact ⟨rfl, hb⟩
          obtain ⟨fo, hfo⟩ : ∃ fo, Pg.fnd gf gl key = fo := ⟨_, rfl⟩
          rw [hfo] at HFN
          have HFO : Hid (Pg.fnd gf gl key = fo) := hfo
          clear hfo
          go_wp2_with fail
          refine Calls.mono (HFN.out _ HE4.out) ?_
          rintro e w5 ⟨rfl, hb5⟩
          clear g0 g1 g2 g3 g4 z0 z1 z2 z3 z4 z5 y0 y1 y2 y3 y4 y5
          obtain ⟨⟨xk, xs, xg, xc⟩, hxe⟩ : ∃ x, fo.getD En.zero = x := ⟨_, rfl⟩
          obtain ⟨xb, hxb⟩ : ∃ xb, fo.isSome = xb := ⟨_, rfl⟩
          have HXE : Hid (fo.getD En.zero = ⟨xk, xs, xg, xc⟩ ∧ fo.isSome = xb) := ⟨hxe, hxb⟩
          simp only [fv, hxe, hxb, En.val]
          obtain ⟨w6, hw6⟩ : ∃ w6, w5.alloc (.cells #[.string xk, .int .i64 xs, .int .i64 xg, .int .i64 xc] 30) = w6 := ⟨_, rfl⟩
          have hb6 : Below w5.heap.size w5 w6 := by rw [← hw6]; exact (Below.refl _ _).alloc (Nat.le_refl _) _
          obtain ⟨Y, hY⟩ : ∃ Y, w5.heap.size = Y := ⟨_, rfl⟩
          have HY6 : Hid (Bk w6 Y 30 #[.string xk, .int .i64 xs, .int .i64 xg, .int .i64 xc]) := by rw [← hw6, ← hY]; exact Bk.new _ _ _
          have hb46 : Below w4.heap.size w4 w6 := hb5.trans (hb6.mono hb5.size)
          have HB6 : Hid (Below w.heap.size w w6) := HB4.out.trans (hb46.mono HB4.out.size)
          have HK6 : Hid (Bk w6 X 24 #[.bool gf, .string glo, .string ghi, .int .i64 gr, .slice gp gn gc]) := HK4.out.below hb46 HK4.out.lt
          have HS6 : Hid (Bk w6 (w.heap.size + 1) 44 #[.string ⟨#[]⟩, .int .i64 0, .int .i64 0, .int .i64 0, .bool false, .int .i64 0]) := HS4.out.below hb46 HS4.out.lt
          have g0 : w6.cell? ⟨X, 0, none⟩ = some (.bool gf) := HK6.out.cell 0
          have g1 : w6.cell? ⟨X, 1, none⟩ = some (.string glo) := HK6.out.cell 1
          have g2 : w6.cell? ⟨X, 2, none⟩ = some (.string ghi) := HK6.out.cell 2
          have g3 : w6.cell? ⟨X, 3, none⟩ = some (.int .i64 gr) := HK6.out.cell 3
          have g4 : w6.cell? ⟨X, 4, none⟩ = some (.slice gp gn gc) := HK6.out.cell 4
          have z0 : w6.cell? ⟨w.heap.size + 1, 0, none⟩ = some (.string ⟨#[]⟩) := HS6.out.cell 0
          have z1 : w6.cell? ⟨w.heap.size + 1, 1, none⟩ = some (.int .i64 0) := HS6.out.cell 1
          have z2 : w6.cell? ⟨w.heap.size + 1, 2, none⟩ = some (.int .i64 0) := HS6.out.cell 2
          have z3 : w6.cell? ⟨w.heap.size + 1, 3, none⟩ = some (.int .i64 0) := HS6.out.cell 3
          have z4 : w6.cell? ⟨w.heap.size + 1, 4, none⟩ = some (.bool false) := HS6.out.cell 4
          have z5 : w6.cell? ⟨w.heap.size + 1, 5, none⟩ = some (.int .i64 0) := HS6.out.cell 5
          have y0 : w6.frozen? ⟨w.heap.size + 1, 0, none⟩ = false := HS6.out.frozen 0
          have y1 : w6.frozen? ⟨w.heap.size + 1, 1, none⟩ = false := HS6.out.frozen 1
          have y2 : w6.frozen? ⟨w.heap.size + 1, 2, none⟩ = false := HS6.out.frozen 2
          have y3 : w6.frozen? ⟨w.heap.size + 1, 3, none⟩ = false := HS6.out.frozen 3
          have y4 : w6.frozen? ⟨w.heap.size + 1, 4, none⟩ = false := HS6.out.frozen 4
          have y5 : w6.frozen? ⟨w.heap.size + 1, 5, none⟩ = false := HS6.out.frozen 5
          have x0 : w6.cell? ⟨Y, 0, none⟩ = some (.string xk) := HY6.out.cell 0
          have x1 : w6.cell? ⟨Y, 1, none⟩ = some (.int .i64 xs) := HY6.out.cell 1
          have x2 : w6.cell? ⟨Y, 2, none⟩ = some (.int .i64 xg) := HY6.out.cell 2
          have x3 : w6.cell? ⟨Y, 3, none⟩ = some (.int .i64 xc) := HY6.out.cell 3
          clear hb5 hb6 hb46 hxe hxb HB4 HK4 HS4 HE4 HFN
          cases gf with
          | true =>
            have HE : Hid (se = ⟨xk, xs, xg, xc⟩ ∧ sf = xb ∧ sg = 0 ∧ er = 0) := by
              have h1 := HO7.out
              simp only [if_true] at h1
              have h2 : Pg.find true gl key = fo := HFO.out
              rw [h2] at h1
              have h3 := HXE.out
              cases fo with
              | none =>
                simp only [Dl.hitL, Sp.zero, Prod.mk.injEq, Sp.mk.injEq] at h1
                simp only [Option.getD_none, Option.isSome_none] at h3
                exact ⟨h1.1.1.symm.trans h3.1, h1.1.2.1.symm.trans h3.2, h1.1.2.2.symm, h1.2.symm⟩
              | some x =>
                simp only [Dl.hitL, Prod.mk.injEq, Sp.mk.injEq] at h1
                simp only [Option.getD_some, Option.isSome_some] at h3
                exact ⟨h1.1.1.symm.trans h3.1, h1.1.2.1.symm.trans h3.2, h1.1.2.2.symm, h1.2.symm⟩
            go_wp2
            have k1 := Bk.six HS6.out (.string xk) (.int .i64 xs) (.int .i64 xg) (.int .i64 xc) (.bool xb) (.int .i64 0)
            have ht : Tn [w.heap.size + 1] w6 _ := (Tn.refl _ _).six (R := w.heap.size + 1) (.inl (by simp)) (.string xk) (.int .i64 xs) (.int .i64 xg) (.int .i64 xc) (.bool xb) (.int .i64 0)
            have hz := HB6.out.trans (ht.below HB6.out.size (by simp))
            refine bodyPost_ret (results_two (T' := 44) (cs := [.string xk, .int .i64 xs, .int .i64 xg, .int .i64 xc, .bool xb, .int .i64 0]) rfl rfl sp_agg sp_size rfl k1) rfl ?_
            rw [HE.out.1, HE.out.2.1, HE.out.2.2.1, HE.out.2.2.2]
            exact ⟨rfl, hz⟩
          | false =>
            cases xb with
            | false =>
              have HE : Hid (se = En.zero ∧ sf = false ∧ sg = 0 ∧ er = 73) := by
                have h1 := HO7.out
                simp only [Bool.false_eq_true, if_false] at h1
                rw [HFO.out] at h1
                have h3 := HXE.out.2
                cases fo with
                | none =>
                  simp only [Dl.hitI, Sp.zero, Prod.mk.injEq, Sp.mk.injEq] at h1
                  exact ⟨h1.1.1.symm, h1.1.2.1.symm, h1.1.2.2.symm, h1.2.symm⟩
                | some x => cases h3
              go_wp2
              have k1 := Bk.six HS6.out (.string ⟨#[]⟩) (.int .i64 0) (.int .i64 0) (.int .i64 0) (.bool false) (.int .i64 0)
              have ht : Tn [w.heap.size + 1] w6 _ := (Tn.refl _ _).six (R := w.heap.size + 1) (.inl (by simp)) (.string ⟨#[]⟩) (.int .i64 0) (.int .i64 0) (.int .i64 0) (.bool false) (.int .i64 0)
              have hz := HB6.out.trans (ht.below HB6.out.size (by simp))
              refine bodyPost_ret (results_two (T' := 44) (cs := [.string ⟨#[]⟩, .int .i64 0, .int .i64 0, .int .i64 0, .bool false, .int .i64 0]) rfl rfl sp_agg sp_size rfl k1) rfl ?_
              rw [HE.out.1, HE.out.2.1, HE.out.2.2.1, HE.out.2.2.2]
              exact ⟨rfl, hz⟩
            | true =>
              have HE : Hid (se = ⟨xk, xs, xg, xc⟩ ∧ sf = true ∧ sg = xc ∧ er = 0) := by
                have h1 := HO7.out
                simp only [Bool.false_eq_true, if_false] at h1
                rw [HFO.out] at h1
                have h3 := HXE.out
                cases fo with
                | none => cases h3.2
                | some x =>
                  simp only [Option.getD_some] at h3
                  rw [h3.1] at h1
                  simp only [Dl.hitI, Prod.mk.injEq, Sp.mk.injEq] at h1
                  exact ⟨h1.1.1.symm, h1.1.2.1.symm, h1.1.2.2.symm, h1.2.symm⟩
              go_wp2
              have k1 := Bk.six HS6.out (.string xk) (.int .i64 xs) (.int .i64 xg) (.int .i64 xc) (.bool true) (.int .i64 xc)
              have ht : Tn [w.heap.size + 1] w6 _ := (Tn.refl _ _).six (R := w.heap.size + 1) (.inl (by simp)) (.string xk) (.int .i64 xs) (.int .i64 xg) (.int .i64 xc) (.bool true) (.int .i64 xc)
              have hz := HB6.out.trans (ht.below HB6.out.size (by simp))
              refine bodyPost_ret (results_two (T' := 44) (cs := [.string xk, .int .i64 xs, .int .i64 xg, .int .i64 xc, .bool true, .int .i64 xc]) rfl rfl sp_agg sp_size rfl k1) rfl ?_
              rw [HE.out.1, HE.out.2.1, HE.out.2.2.1, HE.out.2.2.2]
              exact ⟨rfl, hz⟩
    · have HE : Hid (se = En.zero ∧ sf = false ∧ sg = 0 ∧ er = err) := by
        have h1 := HO.out
        simp only [ne_eq, he, not_false_eq_true, if_true] at h1
        simp only [Sp.zero, Prod.mk.injEq, Sp.mk.injEq] at h1
        exact ⟨h1.1.1.symm, h1.1.2.1.symm, h1.1.2.2.symm, h1.2.symm⟩
      have hne : (err != 0) = true := by simpa using he
      clear he HO
      go_wp2
      have k1 := Bk.six HS3.out (.string ⟨#[]⟩) (.int .i64 0) (.int .i64 0) (.int .i64 0) (.bool false) (.int .i64 0)
      have ht : Tn [w.heap.size + 1] w3 _ := (Tn.refl _ _).six (R := w.heap.size + 1) (.inl (by simp)) (.string ⟨#[]⟩) (.int .i64 0) (.int .i64 0) (.int .i64 0) (.bool false) (.int .i64 0)
      have hz := HB3.out.trans (ht.below HB3.out.size (by simp))
      refine bodyPost_ret (results_two (T' := 44) (cs := [.string ⟨#[]⟩, .int .i64 0, .int .i64 0, .int .i64 0, .bool false, .int .i64 0]) rfl rfl sp_agg sp_size rfl k1) rfl ?_
      rw [HE.out.1, HE.out.2.1, HE.out.2.2.1, HE.out.2.2.2]
      exact ⟨rfl, hz⟩

end Go.Proofs.YthpilennljpamaaGreat

namespace Go.Proofs.YthpilennljpamaaGreat
open Go.ChangeShapes Go.WideShapes Go.ChangeAt Go.RowKit Go.Sort
open Go.ChangeMaps (open_string shut_string)
set_option linter.unusedVariables false
set_option linter.unusedSimpArgs false
set_option maxRecDepth 100000

theorem eq_boolD (d : Nat) (x y : Bool) (w : World) : (Op.equalIn (d + 1) 4 (.bool x) (.bool y)).run Tryz.prog w = .ok (x == y) w := by
  simp [Op.equalIn, run_underlying Tryz.underlying4]

theorem eq_spD (m : Nat) (xk : ByteArray) (xs xg xc : Int) (xf : Bool) (xo : Int)
    (e0 : ∀ w, (Op.equalIn m 30 (.agg #[.string xk, .int .i64 xs, .int .i64 xg, .int .i64 xc]) (.agg #[.string xk, .int .i64 xs, .int .i64 xg, .int .i64 xc])).run Tryz.prog w = .ok true w)
    (e1 : ∀ w, (Op.equalIn m 4 (.bool xf) (.bool xf)).run Tryz.prog w = .ok true w) (e2 : ∀ w, (Op.equalIn m 3 (.int .i64 xo) (.int .i64 xo)).run Tryz.prog w = .ok true w) (w : World) :
    (Op.equalIn (m + 1) 44 (.agg #[.string xk, .int .i64 xs, .int .i64 xg, .int .i64 xc, .bool xf, .int .i64 xo]) (.agg #[.string xk, .int .i64 xs, .int .i64 xg, .int .i64 xc, .bool xf, .int .i64 xo])).run Tryz.prog w = .ok true w := by
  have p0 : ∀ w, (part 30 #[.string xk, .int .i64 xs, .int .i64 xg, .int .i64 xc, .bool xf, .int .i64 xo] 0).run Tryz.prog w = .ok (.agg #[.string xk, .int .i64 xs, .int .i64 xg, .int .i64 xc]) w := fun w => by kernel_rfl
  have p1 : ∀ w, (part 4 #[.string xk, .int .i64 xs, .int .i64 xg, .int .i64 xc, .bool xf, .int .i64 xo] 4).run Tryz.prog w = .ok (.bool xf) w := fun w => by kernel_rfl
  have p2 : ∀ w, (part 3 #[.string xk, .int .i64 xs, .int .i64 xg, .int .i64 xc, .bool xf, .int .i64 xo] 5).run Tryz.prog w = .ok (.int .i64 xo) w := fun w => by kernel_rfl
  have hs : Tryz.prog.stoodInHeld 44 = false := by kernel_rfl
  simp [Op.equalIn, run_underlying Tryz.underlying44, p0, p1, p2, e0, e1, e2, hs]
theorem eqIn_sp (xk : ByteArray) (xs xg xc : Int) (xf : Bool) (xo : Int) (w : World) : (Op.equalIn 10000 44 (.agg #[.string xk, .int .i64 xs, .int .i64 xg, .int .i64 xc, .bool xf, .int .i64 xo]) (.agg #[.string xk, .int .i64 xs, .int .i64 xg, .int .i64 xc, .bool xf, .int .i64 xo])).run Tryz.prog w = .ok true w :=
  eq_spD 9999 xk xs xg xc xf xo (fun w => by
    have := eq_enD 9998 (fun x y w => eq_intD 9997 x y w) (fun x y w => eq_strD 9997 x y w) (fun s g s' g' w => eq_hndD 9997 (fun x y w => eq_intD 9996 x y w) (fun x y w => eq_int64D 9996 x y w) s g s' g' w) ⟨xk, xs, xg, xc⟩ ⟨xk, xs, xg, xc⟩ w
    rw [(En.eqb_iff _ _).2 rfl] at this
    exact this) (fun w => by have := eq_boolD 9998 xf xf w; rw [beq_self_eq_true] at this; exact this) (fun w => by have := eq_intD 9998 xo xo w; rw [beq_self_eq_true] at this; exact this) w


theorem long_any (p : Option Addr) (len cap : Nat) (w : World) : Calls Tryz.prog 20 #[.slice p len cap] w fun e w' => e = .returned (.bool (decide ((6 : Int) < (len : Int)))) ∧ w' = w := by
  go_enter Tryz.func20, Tryz.ntmps20
  go_wp2
  go_ret
  exact ⟨rfl, rfl⟩

theorem fo_len2 {g : Pp} {ds : List De} (hp : g.l.length ≤ 1048576) (hd : ds.length ≤ 1048576) (h : ∀ d ∈ ds, d.rt.l.length ≤ 1048576) : (Dl.fo g ds).1.l.length ≤ 2000000000000 := by
  by_cases h0 : (Dl.fo g ds).2 = 0
  · rw [(Dl.fo_ok g ds h0).1]
    have h3 := ents_le ds g.l h
    have h5 : ds.length * 1048577 ≤ 1048576 * 1048577 := Nat.mul_le_mul_right _ hd
    omega
  · rw [Dl.fo_zero g ds h0]
    exact Nat.zero_le _

set_option maxHeartbeats 16000000 in
theorem walk_deltaFolds (pf : Bool) (plo phi : ByteArray) (pr : Int) (pp : Option Addr) (pn pc : Nat) (pl : List En) (key : ByteArray) (lp : Option Addr) (ln lc : Nat) (L : List Dm) (w : World) (hp : InE 1048576 w pp pn pc pl) (hkey : key.size ≤ 1048576) (hl : InDs w lp ln lc L) :
    Calls Tryz.prog 4 #[.agg #[.bool pf, .string plo, .string phi, .int .i64 pr, .slice pp pn pc], .string key, .slice lp ln lc] w fun e w' => e = .returned (.bool true) ∧ Below w.heap.size w w' := by
  have HP : Hid (InE 1048576 w pp pn pc pl) := hp
  have HL : Hid (InDs w lp ln lc L) := hl
  have hln : ln ≤ 1048576 := hl.room
  have hpn : pn ≤ 1048576 := hp.room
  clear hp hl hkey
  have hdd : ∀ d ∈ (L.map (·.d)).reverse, d.rt.l.length ≤ 1048576 := by
    intro d hd
    simp only [List.mem_reverse, List.mem_map] at hd
    obtain ⟨m, hm, rfl⟩ := hd
    obtain ⟨i, hi⟩ := List.getElem?_of_mem hm
    have hpos : 0 < L.length := List.length_pos_of_mem hm
    obtain ⟨b, o, -, hc⟩ := HL.out.des hpos
    rw [(hc i m hi).2.len]
    exact HL.out.each m hm
  have hpl : pl.length ≤ 1048576 := by rw [HP.out.lenq]; exact hpn
  have hdl : (L.map (·.d)).reverse.length ≤ 1048576 := by simp [HL.out.lenq]; exact hln
  have hfl : ∀ t, (Dl.fo ⟨pf, plo, phi, pr, pl⟩ ((L.map (·.d)).reverse.take t)).1.l.length ≤ 2000000000000 := fun t => fo_len2 hpl (Nat.le_trans (List.length_take_le' _ _) hdl) fun d hd => hdd d (List.mem_of_mem_take hd)
  have hxp : ∀ W, Below w.heap.size w W → XP W pp pn pc pl := fun W h => ⟨HP.out.lenq, HP.out.ens.below h (Nat.le_refl _), HP.out.nil, HP.out.le⟩
  have hfit := fit_small hpl hdl hdd
  have hAF := fun (W : World) (h : Below w.heap.size w W) => fold_any pf plo phi pr pp pn pc pl lp ln lc L W HP.out.lenq (HP.out.ens.below h (Nat.le_refl _)) (fun h => (HP.out.nil h).1) HL.out.lenq (by omega) (HL.out.des.below h (Nat.le_refl _)) (fun _ => hfit)
  have hRF := fun (W : World) (h : Below w.heap.size w W) => rfold_any pf plo phi pr pp pn pc pl lp ln lc L W (hxp W h) HL.out.lenq hln (HL.out.des.below h (Nat.le_refl _)) HL.out.each hfl
  obtain ⟨⟨⟨xk, xs, xg, xc⟩, sf, sg⟩, er, hlk⟩ : ∃ (s : Sp) (er : Int), Dl.rlook (L.map (·.d)) key (Dl.fo ⟨pf, plo, phi, pr, pl⟩ (L.map (·.d)).reverse) = (s, er) := ⟨_, _, rfl⟩
  have hRL := fun (W : World) (h : Below w.heap.size w W) => rlook_any pf plo phi pr pp pn pc pl key lp ln lc L W (hxp W h) HL.out.lenq hln (HL.out.des.below h (Nat.le_refl _)) HL.out.each hfl hlk
  have hAL := fun (W : World) (h : Below w.heap.size w W) => look_any pf plo phi pr pp pn pc pl key lp ln lc L (entsL pl (L.map (·.d)).reverse) W HP.out.lenq (HP.out.ens.below h (Nat.le_refl _)) (by omega) HL.out.lenq (by omega) (HL.out.des.below h (Nat.le_refl _)) (fun h0 _ W' hW' => by
    have hWW : Below w.heap.size w W' := h.trans (hW'.mono h.size)
    have hok : (Dl.fo ⟨pf, plo, phi, pr, pl⟩ (L.map (·.d)).reverse).2 = 0 := by
      rw [Dl.outl_fo] at h0
      exact h0
    have := entries_any pf plo phi pr pp pn pc pl lp ln lc L W' HP.out.lenq (HP.out.ens.below hWW (Nat.le_refl _)) (fun h => (HP.out.nil h).1) HL.out.lenq (HL.out.des.below hWW (Nat.le_refl _)) hfit.row hfit.texts hfit.ents (fun d hd => Dl.may_rt ((Dl.fo_ok _ _ hok).2 d hd).1)
    refine this.mono ?_
    rintro e w' ⟨v, rfl, ho, hb⟩
    obtain ⟨q, c, rfl, he, -⟩ := ho.ens
    refine ⟨⟨q, _, c, rfl, rfl, he, ?_⟩, hb⟩
    have h3 := ents_le (L.map (·.d)).reverse pl hdd
    have h5 : (L.map (·.d)).reverse.length * 1048577 ≤ 1048576 * 1048577 := Nat.mul_le_mul_right _ hdl
    omega)
  have hleq := Dl.look_eq ⟨pf, plo, phi, pr, pl⟩ key (L.map (·.d))
  simp only at hleq
  rw [hlk] at hleq
  rw [hleq] at hAL
  obtain ⟨⟨⟨gf, glo, ghi, gr, gl⟩, err⟩, hfo⟩ : ∃ A, Dl.fo ⟨pf, plo, phi, pr, pl⟩ (L.map (·.d)).reverse = A := ⟨_, rfl⟩
  rw [hfo] at hAF hRF
  obtain ⟨gn, hgn⟩ : ∃ gn, gl.length = gn := ⟨_, rfl⟩
  have hglen : gl.length ≤ 2000000000000 := by
    have := hfl ln
    rw [List.take_of_length_le (by simp [HL.out.lenq]), hfo] at this
    exact this
  have HGN : Hid (gl.length = gn ∧ gn ≤ 2000000000000) := ⟨hgn, hgn ▸ hglen⟩
  have HAF : Hid (∀ W, Below w.heap.size w W → Calls Tryz.prog 11 #[.agg #[.bool pf, .string plo, .string phi, .int .i64 pr, .slice pp pn pc], .slice lp ln lc] W fun e w' => ∃ ap ac, e = .returned (.tuple #[.agg #[.bool gf, .string glo, .string ghi, .int .i64 gr, .slice ap gn ac], .int .i64 err]) ∧ Ens w' ap gl ∧ Below W.heap.size W w') := fun W h => by
    refine (hAF W h).mono ?_
    rintro e w' ⟨v, rfl, ⟨p, c, rfl, hs⟩, hb⟩
    refine ⟨p, c, ?_, hs.ens, hb⟩
    have e9 : (⟨gf, glo, ghi, gr, gl⟩ : Pp).l.length = gn := hgn
    rw [e9]
  have HRF : Hid (∀ W, Below w.heap.size w W → Calls Tryz.prog 17 #[.agg #[.bool pf, .string plo, .string phi, .int .i64 pr, .slice pp pn pc], .slice lp ln lc] W fun e w' => ∃ bp bc, e = .returned (.tuple #[.agg #[.bool gf, .string glo, .string ghi, .int .i64 gr, .slice bp gn bc], .int .i64 err]) ∧ Ens w' bp gl ∧ Below W.heap.size W w') := fun W h => by
    refine (hRF W h).mono ?_
    rintro e w' ⟨v, rfl, ⟨p, c, rfl, hs, -, -⟩, hb⟩
    refine ⟨p, c, ?_, hs, hb⟩
    have e9 : (⟨gf, glo, ghi, gr, gl⟩ : Pp).l.length = gn := hgn
    rw [e9]
  have HAL : Hid (∀ W, Below w.heap.size w W → Calls Tryz.prog 18 #[.agg #[.bool pf, .string plo, .string phi, .int .i64 pr, .slice pp pn pc], .string key, .slice lp ln lc] W fun e w' => e = .returned (.tuple #[.agg #[.string xk, .int .i64 xs, .int .i64 xg, .int .i64 xc, .bool sf, .int .i64 sg], .int .i64 er]) ∧ Below W.heap.size W w') := hAL
  have HRL : Hid (∀ W, Below w.heap.size w W → Calls Tryz.prog 19 #[.agg #[.bool pf, .string plo, .string phi, .int .i64 pr, .slice pp pn pc], .string key, .slice lp ln lc] W fun e w' => e = .returned (.tuple #[.agg #[.string xk, .int .i64 xs, .int .i64 xg, .int .i64 xc, .bool sf, .int .i64 sg], .int .i64 er]) ∧ Below W.heap.size W w') := hRL
  clear hdd hpl hdl hfl hxp hfit hAF hRF hRL hAL hleq hlk hfo hgn hglen
  obtain ⟨w0, hw0⟩ : ∃ w0, w.alloc (.cells #[.bool pf, .string plo, .string phi, .int .i64 pr, .slice pp pn pc] 24) = w0 := ⟨_, rfl⟩
  have HB0 : Hid (Below w.heap.size w w0) := by rw [← hw0]; exact (Below.refl _ _).alloc (Nat.le_refl _) _
  have HP0 : Hid (Bk w0 w.heap.size 24 #[.bool pf, .string plo, .string phi, .int .i64 pr, .slice pp pn pc]) := by rw [← hw0]; exact Bk.new _ _ _
  have HPW : Hid (∀ W, Below w0.heap.size w0 W → Bk W w.heap.size 24 #[.bool pf, .string plo, .string phi, .int .i64 pr, .slice pp pn pc] ∧ Below w.heap.size w W) := fun W h => ⟨HP0.out.below h HP0.out.lt, HB0.out.trans (h.mono HB0.out.size)⟩
  have a0 : w0.cell? ⟨w.heap.size, 0, none⟩ = some (.bool pf) := HP0.out.cell 0
  have a1 : w0.cell? ⟨w.heap.size, 1, none⟩ = some (.string plo) := HP0.out.cell 1
  have a2 : w0.cell? ⟨w.heap.size, 2, none⟩ = some (.string phi) := HP0.out.cell 2
  have a3 : w0.cell? ⟨w.heap.size, 3, none⟩ = some (.int .i64 pr) := HP0.out.cell 3
  have a4 : w0.cell? ⟨w.heap.size, 4, none⟩ = some (.slice pp pn pc) := HP0.out.cell 4
  go_enter Tryz.func4, Tryz.ntmps4
  go_wp2_with fail
  refine Calls.mono (HAF.out _ HB0.out) ?_
  rintro e wa ⟨ap, ac, rfl, hea, hba⟩
  clear a0 a1 a2 a3 a4
  clear hw0
  obtain ⟨w1, hw1⟩ : ∃ w1, wa.alloc (.cells #[.bool gf, .string glo, .string ghi, .int .i64 gr, .slice ap gn ac] 24) = w1 := ⟨_, rfl⟩
  have hb1 : Below wa.heap.size wa w1 := by rw [← hw1]; exact (Below.refl _ _).alloc (Nat.le_refl _) _
  obtain ⟨X7, hX7⟩ : ∃ X7, wa.heap.size = X7 := ⟨_, rfl⟩
  have HK1 : Hid (Bk w1 X7 24 #[.bool gf, .string glo, .string ghi, .int .i64 gr, .slice ap gn ac]) := by rw [← hw1, ← hX7]; exact Bk.new _ _ _
  have HB1 : Hid (Below w0.heap.size w0 w1) := hba.trans (hb1.mono hba.size)
  have HE1 : Hid (Ens w1 ap gl) := hea.below hb1 (Nat.le_refl _)
  clear hea hba hb1
  have hp1 := (HPW.out w1 HB1.out).1
  have a0 : w1.cell? ⟨w.heap.size, 0, none⟩ = some (.bool pf) := hp1.cell 0
  have a1 : w1.cell? ⟨w.heap.size, 1, none⟩ = some (.string plo) := hp1.cell 1
  have a2 : w1.cell? ⟨w.heap.size, 2, none⟩ = some (.string phi) := hp1.cell 2
  have a3 : w1.cell? ⟨w.heap.size, 3, none⟩ = some (.int .i64 pr) := hp1.cell 3
  have a4 : w1.cell? ⟨w.heap.size, 4, none⟩ = some (.slice pp pn pc) := hp1.cell 4
  clear hp1
  go_wp2_with fail
  try rw [hX7]
  refine Calls.mono (HRF.out _ (HPW.out w1 HB1.out).2) ?_
  rintro e wb ⟨bp, bc, rfl, heb, hbb⟩
  clear a0 a1 a2 a3 a4
  clear hw1 hX7
  obtain ⟨w2, hw2⟩ : ∃ w2, wb.alloc (.cells #[.bool gf, .string glo, .string ghi, .int .i64 gr, .slice bp gn bc] 24) = w2 := ⟨_, rfl⟩
  have hb2 : Below wb.heap.size wb w2 := by rw [← hw2]; exact (Below.refl _ _).alloc (Nat.le_refl _) _
  obtain ⟨X9, hX9⟩ : ∃ X9, wb.heap.size = X9 := ⟨_, rfl⟩
  have HK2 : Hid (Bk w2 X9 24 #[.bool gf, .string glo, .string ghi, .int .i64 gr, .slice bp gn bc]) := by rw [← hw2, ← hX9]; exact Bk.new _ _ _
  have HB12 : Hid (Below w1.heap.size w1 w2) := hbb.trans (hb2.mono hbb.size)
  have HB2 : Hid (Below w0.heap.size w0 w2) := HB1.out.trans (HB12.out.mono HB1.out.size)
  have HE2 : Hid (Ens w2 bp gl) := heb.below hb2 (Nat.le_refl _)
  clear heb hbb hb2
  have hp2 := (HPW.out w2 HB2.out).1
  have a0 : w2.cell? ⟨w.heap.size, 0, none⟩ = some (.bool pf) := hp2.cell 0
  have a1 : w2.cell? ⟨w.heap.size, 1, none⟩ = some (.string plo) := hp2.cell 1
  have a2 : w2.cell? ⟨w.heap.size, 2, none⟩ = some (.string phi) := hp2.cell 2
  have a3 : w2.cell? ⟨w.heap.size, 3, none⟩ = some (.int .i64 pr) := hp2.cell 3
  have a4 : w2.cell? ⟨w.heap.size, 4, none⟩ = some (.slice pp pn pc) := hp2.cell 4
  clear hp2
  go_wp2_with fail
  try rw [hX9]
  refine Calls.mono (HAL.out _ (HPW.out w2 HB2.out).2) ?_
  rintro e wc ⟨rfl, hbc⟩
  clear a0 a1 a2 a3 a4
  clear hw2 hX9
  obtain ⟨w3, hw3⟩ : ∃ w3, w3 = wc.alloc (.cells #[.string xk, .int .i64 xs, .int .i64 xg, .int .i64 xc, .bool sf, .int .i64 sg] 44) := ⟨_, rfl⟩
  have hb3 : Below wc.heap.size wc w3 := by rw [hw3]; exact (Below.refl _ _).alloc (Nat.le_refl _) _
  obtain ⟨Y1, hY1⟩ : ∃ Y1, wc.heap.size = Y1 := ⟨_, rfl⟩
  have HK3 : Hid (Bk w3 Y1 44 #[.string xk, .int .i64 xs, .int .i64 xg, .int .i64 xc, .bool sf, .int .i64 sg]) := by rw [hw3, ← hY1]; exact Bk.new _ _ _
  have HB23 : Hid (Below w2.heap.size w2 w3) := hbc.trans (hb3.mono hbc.size)
  have HB3 : Hid (Below w0.heap.size w0 w3) := HB2.out.trans (HB23.out.mono HB2.out.size)
  clear hbc hb3
  have hp3 := (HPW.out w3 HB3.out).1
  have a0 : w3.cell? ⟨w.heap.size, 0, none⟩ = some (.bool pf) := hp3.cell 0
  have a1 : w3.cell? ⟨w.heap.size, 1, none⟩ = some (.string plo) := hp3.cell 1
  have a2 : w3.cell? ⟨w.heap.size, 2, none⟩ = some (.string phi) := hp3.cell 2
  have a3 : w3.cell? ⟨w.heap.size, 3, none⟩ = some (.int .i64 pr) := hp3.cell 3
  have a4 : w3.cell? ⟨w.heap.size, 4, none⟩ = some (.slice pp pn pc) := hp3.cell 4
  clear hp3
  rw [hw3] at a0 a1 a2 a3 a4
  go_wp2_with fail
  try rw [hY1]
  rw [← hw3]
  refine Calls.mono (HRL.out _ (HPW.out w3 HB3.out).2) ?_
  rintro e wd ⟨rfl, hbd⟩
  clear a0 a1 a2 a3 a4
  clear hw3 hY1
  obtain ⟨w4, hw4⟩ : ∃ w4, w4 = wd.alloc (.cells #[.string xk, .int .i64 xs, .int .i64 xg, .int .i64 xc, .bool sf, .int .i64 sg] 44) := ⟨_, rfl⟩
  have hb4 : Below wd.heap.size wd w4 := by rw [hw4]; exact (Below.refl _ _).alloc (Nat.le_refl _) _
  obtain ⟨Y2, hY2⟩ : ∃ Y2, wd.heap.size = Y2 := ⟨_, rfl⟩
  have HK4 : Hid (Bk w4 Y2 44 #[.string xk, .int .i64 xs, .int .i64 xg, .int .i64 xc, .bool sf, .int .i64 sg]) := by rw [hw4, ← hY2]; exact Bk.new _ _ _
  have HB34 : Hid (Below w3.heap.size w3 w4) := hbd.trans (hb4.mono hbd.size)
  clear hbd hb4
  go_wp2_with fail
  try rw [hY2]
  rw [← hw4]
  clear hw4 hY2
  refine (live_any _).mono ?_
  rintro e w5 ⟨rfl, hb5⟩
  have HB35 : Hid (Below w3.heap.size w3 w5) := HB34.out.trans (hb5.mono HB34.out.size)
  have HB25 : Hid (Below w2.heap.size w2 w5) := HB23.out.trans (HB35.out.mono HB23.out.size)
  have HB15 : Hid (Below w1.heap.size w1 w5) := HB12.out.trans (HB25.out.mono HB12.out.size)
  have HB5 : Hid (Below w.heap.size w w5) := by
    have h1 := (HPW.out w1 HB1.out).2
    exact h1.trans (HB15.out.mono h1.size)
  have HY25 : Hid (Bk w5 Y2 44 #[.string xk, .int .i64 xs, .int .i64 xg, .int .i64 xc, .bool sf, .int .i64 sg]) := HK4.out.below hb5 HK4.out.lt
  have HY15 : Hid (Bk w5 Y1 44 #[.string xk, .int .i64 xs, .int .i64 xg, .int .i64 xc, .bool sf, .int .i64 sg]) := HK3.out.below HB35.out HK3.out.lt
  have hk15 := HK1.out.below HB15.out HK1.out.lt
  have hk25 := HK2.out.below HB25.out HK2.out.lt
  have g0 : w5.cell? ⟨X7, 0, none⟩ = some (.bool gf) := hk15.cell 0
  have g1 : w5.cell? ⟨X7, 1, none⟩ = some (.string glo) := hk15.cell 1
  have g2 : w5.cell? ⟨X7, 2, none⟩ = some (.string ghi) := hk15.cell 2
  have g3 : w5.cell? ⟨X7, 3, none⟩ = some (.int .i64 gr) := hk15.cell 3
  have g4 : w5.cell? ⟨X7, 4, none⟩ = some (.slice ap gn ac) := hk15.cell 4
  have h0 : w5.cell? ⟨X9, 0, none⟩ = some (.bool gf) := hk25.cell 0
  have h1 : w5.cell? ⟨X9, 1, none⟩ = some (.string glo) := hk25.cell 1
  have h2 : w5.cell? ⟨X9, 2, none⟩ = some (.string ghi) := hk25.cell 2
  have h3 : w5.cell? ⟨X9, 3, none⟩ = some (.int .i64 gr) := hk25.cell 3
  have h4 : w5.cell? ⟨X9, 4, none⟩ = some (.slice bp gn bc) := hk25.cell 4
  have HSM : Hid (Calls Tryz.prog 16 #[.agg #[.bool gf, .string glo, .string ghi, .int .i64 gr, .slice ap gn ac], .agg #[.bool gf, .string glo, .string ghi, .int .i64 gr, .slice bp gn bc]] w5 fun r w' => r = .returned (.bool true) ∧ Below w5.heap.size w5 w') := by
    have := rsame_any ⟨gf, glo, ghi, gr, gl⟩ ⟨gf, glo, ghi, gr, gl⟩ ap bp gn gn ac bc w5 HGN.out.1 HGN.out.1 (HE1.out.below HB15.out (Nat.le_refl _)) (HE2.out.below HB25.out (Nat.le_refl _)) (by have := HGN.out.2; omega)
    rw [Pg.same_self] at this
    exact this
  have ee : (err == err) = true := by simp
  have rr : (er == er) = true := by simp
  clear hb5 hk15 hk25 HK1 HK2 HK3 HK4 HB12 HB23 HB34 HB1 HB2 HB3 HAF HRF HAL HRL
  go_wp2_with fail
  refine Calls.mono HSM.out ?_
  rintro e w6 ⟨rfl, hb6⟩
  clear g0 g1 g2 g3 g4 h0 h1 h2 h3 h4
  have HB6 : Hid (Below w.heap.size w w6) := HB5.out.trans (hb6.mono HB5.out.size)
  have hy1 := HY15.out.below hb6 HY15.out.lt
  have hy2 := HY25.out.below hb6 HY25.out.lt
  have x0 : w6.cell? ⟨Y1, 0, none⟩ = some (.string xk) := hy1.cell 0
  have x1 : w6.cell? ⟨Y1, 1, none⟩ = some (.int .i64 xs) := hy1.cell 1
  have x2 : w6.cell? ⟨Y1, 2, none⟩ = some (.int .i64 xg) := hy1.cell 2
  have x3 : w6.cell? ⟨Y1, 3, none⟩ = some (.int .i64 xc) := hy1.cell 3
  have x4 : w6.cell? ⟨Y1, 4, none⟩ = some (.bool sf) := hy1.cell 4
  have x5 : w6.cell? ⟨Y1, 5, none⟩ = some (.int .i64 sg) := hy1.cell 5
  have y0 : w6.cell? ⟨Y2, 0, none⟩ = some (.string xk) := hy2.cell 0
  have y1 : w6.cell? ⟨Y2, 1, none⟩ = some (.int .i64 xs) := hy2.cell 1
  have y2 : w6.cell? ⟨Y2, 2, none⟩ = some (.int .i64 xg) := hy2.cell 2
  have y3 : w6.cell? ⟨Y2, 3, none⟩ = some (.int .i64 xc) := hy2.cell 3
  have y4 : w6.cell? ⟨Y2, 4, none⟩ = some (.bool sf) := hy2.cell 4
  have y5 : w6.cell? ⟨Y2, 5, none⟩ = some (.int .i64 sg) := hy2.cell 5
  have heq := eqIn_sp xk xs xg xc sf sg
  clear hb6 hy1 hy2 HSM HY15 HY25
  go_wp2_with fail
  refine (long_any lp ln lc w6).mono ?_
  rintro e w7 ⟨rfl, rfl⟩
  have hbb : (decide ((6 : Int) < (ln : Int)) == decide ((6 : Int) < (ln : Int))) = true := by simp
  clear heq x0 x1 x2 x3 x4 x5 y0 y1 y2 y3 y4 y5
  go_wp2
  go_ret
  exact ⟨rfl, HB6.out⟩


theorem contract_deltaFolds (H : Type) (enc : TypeId × Value → H) (W : World) (base : Nat) (args : Array Value) (ds gs : List (DataW H)) (before : List MemPlace)
    (hval0 : ∀ (j : Nat) t v, Tryz.f4.params[j]? = some t → args[j]? = some v → Value.okWide Tryz.prog W .any base t v)
    (hW : DataW.Whole enc Tryz.prog Tryz.f4.params.toList Rows.deltaFoldsSpec.vars false W args.toList ds gs before) (hk : Rows.uptoSmall H (ds ++ gs) = true) :
    Calls Tryz.prog 4 args W fun e W' => ∃ v, e = .returned v ∧ Rows.deltaFoldsSpec.post enc Tryz.prog Tryz.f4 false true false false W args v W' := by
  have hval : ∀ (j : Nat) t v, Tryz.f4.params[j]? = some t → args[j]? = some v → Value.okWide Tryz.prog W .any base t v := hval0
  have hW' := hW
  obtain ⟨p, q, hA0, hV, rfl, hfz, hnd⟩ := hW
  have hA : DataW.TrodAll enc Tryz.prog W 0 (fun _ => true) true Tryz.f4.params.toList args.toList ds p := hA0
  rw [Tryz.params4] at hA hval
  obtain ⟨v0, vs0, d0, ds0, p0, q0, hargs, rfl, rfl, h0, r0⟩ := trodAll_cons hA
  obtain ⟨v1, vs1, d1, ds1, p1, q1, rfl, rfl, rfl, h1, r1⟩ := trodAll_cons r0
  obtain ⟨v2, vs2, d2, ds2, p2, q2, rfl, rfl, rfl, h2, r2⟩ := trodAll_cons r1
  obtain ⟨rfl, rfl, rfl⟩ := trodAll_nil r2
  obtain rfl : args = #[v0, v1, v2] := by cases args; simp_all
  obtain ⟨rfl, rfl⟩ := trodVars_none hV
  simp only [List.append_nil] at hk
  have k0 := h0
  have lt0 : ∀ x ∈ p0, x.block < W.heap.size := by obtain ⟨m, hm⟩ := k0; exact DataW.trod_lt m _ _ _ hm
  obtain ⟨b0, lo0, hi0, r0', a0, len0, cap0, l0, e0, w0⟩ : ∃ leaf lo hi r a len cap l, v0 = .agg #[.bool leaf, .string lo, .string hi, .int .i64 r, .slice a len cap] ∧ InE 1048576 W a len cap l := by
    obtain ⟨cs, hcs, _⟩ := okWide_struct Tryz.underlying24 (hval 0 24 v0 rfl rfl)
    obtain ⟨fuel, hf⟩ := h0
    obtain ⟨b, lo, hi, r, a, len, cap, l, hg, ho⟩ := in_page (M := 1048576) hf (page_upto hk (by simp))
    refine ⟨b, lo, hi, r, a, len, cap, l, ?_, ho⟩
    rw [hcs] at hg ⊢
    congr 1
    apply Array.ext'
    simpa [Value.cells] using hg
  subst e0
  obtain ⟨a1, rfl, rfl, rfl, w1⟩ := open_string Tryz.underlying9 (hval 1 9 v1 rfl rfl) h1
  have s1 : a1.size ≤ 1048576 := small_string hk (by simp)
  obtain ⟨a2, len2, cap2, rfl⟩ := okWide_slice Tryz.underlying25 (hval 2 25 v2 rfl rfl)
  have k2 := h2
  have lt2 : ∀ x ∈ p2, x.block < W.heap.size := by obtain ⟨m, hm⟩ := k2; exact DataW.trod_lt m _ _ _ hm
  obtain ⟨z2, w2⟩ := in_deltas hk (by simp) h2
  clear hA0 hval0
  simp only [List.append_nil] at hW'
  refine (walk_deltaFolds b0 lo0 hi0 r0' a0 len0 cap0 l0 a1 a2 len2 cap2 z2 W w0 s1 w2).mono fun e W' ⟨he, bel⟩ => ?_
  subst he
  exact ⟨_, rfl, _, _, _, [], _, [], hW', trodAll_mk1 (shut_bool Tryz.underlying4 _), (trodAll_cons_mk (Below.trod laidOut (by kernel_rfl) (of_decide_eq_true (by kernel_rfl)) k0 bel lt0) (trodAll_cons_mk (shut_string Tryz.underlying9 w1) (trodAll_cons_mk (Below.trod laidOut (by kernel_rfl) (of_decide_eq_true (by kernel_rfl)) k2 bel lt2) trodAll_mk0))), rfl, bel.frame _, fun h => by cases h⟩

set_option maxRecDepth 100000 in
set_option maxHeartbeats 2000000 in
theorem lifted_deltaFolds (os : Os) (started : os.Started) (H : Type) (enc : TypeId × Value → H) (F : Stop.Interp) :
    ReturnsInHanded {} Tryz.checked os 4 .any ((Rows.OpenSpec.upto Rows.deltaFoldsSpec).pre6 enc Tryz.prog Tryz.f4 Rows.deltaFoldsUptoRow.domain false) (((Rows.OpenSpec.upto Rows.deltaFoldsSpec).at F).post enc Tryz.prog Tryz.f4 false true false false) := by
  refine returnsInHanded_of_cond (C := Tryz.checked) (s := Rows.OpenSpec.upto Rows.deltaFoldsSpec) (k := Rows.uptoSmall) rfl own started (by kernel_rfl) Tryz.func4
    (OpenSpec.witness (enc := enc) (C := Tryz.checked) (s := Rows.OpenSpec.upto Rows.deltaFoldsSpec) (k := Rows.uptoSmall) rfl false ⟨#[], #[.agg #[.bool false, .string .empty, .string .empty, .int .i64 0, .slice none 0 0], .string .empty, .slice none 0 0], []⟩ 8 (by kernel_rfl) (by kernel_rfl) (by kernel_rfl)
      (x := ([.agg [.lit (.bool false), .lit (.string []), .lit (.string []), .lit (.int .i64 0), .nil], .lit (.string []), .nil], [], [])) (by kernel_rfl) rfl (by kernel_rfl)) ?_
  intro W base args ds gs before hval hW _ hk _
  exact contract_deltaFolds H enc W base args ds gs before hval hW hk

/-- The statement. -/
theorem deltaFolds_holds : Rows.DeltaFoldsUptoSaid :=
  OpenClaim.holds_of_cond 4 Tryz.f4 rfl rfl rfl rfl rfl rfl rfl ⟨rfl, rfl, rfl, rfl, rfl⟩ rfl rfl rfl rfl rfl (by kernel_rfl) Tryz.func4 (by kernel_rfl)
    (of_decide_eq_true (by kernel_rfl)) (by unfold Func.isWrapper; first | (rw [if_pos (by decide +kernel)]; kernel_rfl) | (rw [if_neg (by decide +kernel)]; exact ⟨rfl, rfl⟩))
    (fun os started H enc _ F => lifted_deltaFolds os started H enc F)
#print axioms deltaFolds_holds
end Go.Proofs.YthpilennljpamaaGreat
