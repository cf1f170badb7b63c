/- Pages as plain data; Split (the code's). -/
import Derived.Test.YtakibndjmhadnaaPgSp
namespace Go.Proofs.Ytakibndjmhadnaa
open Go.RowKit Go.Sort
set_option linter.unusedVariables false
set_option maxRecDepth 100000

/-- A page. -/
structure Pp where
  leaf : Bool
  lo : ByteArray
  hi : ByteArray
  r : Int
  l : List En

namespace Pg
abbrev zero : Pp := ⟨false, ⟨#[]⟩, ⟨#[]⟩, 0, []⟩
/-- What parts two keys. -/
def part (leaf : Bool) (a b : ByteArray) : Option ByteArray := if leaf then (if Ky.lt a b then some (Ky.sep a b) else none) else some b
def keyAt (l : List En) (i : Nat) : ByteArray := match l[i]? with | some e => e.key | none => ⟨#[]⟩
/-- A page's halves. -/
def split (g : Pp) (id : Int) : Pp × Pp × Int :=
  if id < 1 then (zero, zero, 1)
  else if g.l.length < 2 then (zero, zero, 71)
  else match part g.leaf (keyAt g.l (g.l.length / 2 - 1)) (keyAt g.l (g.l.length / 2)) with
    | none => (zero, zero, 70)
    | some m => (⟨g.leaf, g.lo, m, id, g.l.take (g.l.length / 2)⟩, ⟨g.leaf, m, g.hi, g.r, g.l.drop (g.l.length / 2)⟩, 0)
end Pg

/-- A page's value that leads to entries in memory of the call's own. -/
def PgAt (w : World) (base : Nat) (v : Value) (g : Pp) : Prop := ∃ p cap, v = pgv g.leaf g.lo g.hi g.r p g.l.length cap ∧ Seg w base p g.l.length cap g.l

theorem PgAt.zero (w : World) (base : Nat) : PgAt w base (pgv false ⟨#[]⟩ ⟨#[]⟩ 0 none 0 0) Pg.zero := ⟨none, 0, rfl, Seg.nil _ _⟩
theorem PgAt.below {w w' : World} {base : Nat} {v : Value} {g : Pp} (h : PgAt w base v g) {B : Nat} (hb : Below B w w') (hB : w.heap.size ≤ B) : PgAt w' base v g := by
  obtain ⟨p, c, hv, hs⟩ := h
  exact ⟨p, c, hv, hs.below hb hB⟩
theorem PgAt.mono {w : World} {base base' : Nat} {v : Value} {g : Pp} (h : PgAt w base v g) (hb : base' ≤ base) : PgAt w base' v g := by
  obtain ⟨p, c, hv, hs⟩ := h
  exact ⟨p, c, hv, hs.mono hb⟩
theorem Pg.keyAt_some {l : List En} {i : Nat} {e : En} (h : l[i]? = some e) : Pg.keyAt l i = e.key := by unfold Pg.keyAt; rw [h]

abbrev zc : Array Value := #[.bool false, .string ⟨#[]⟩, .string ⟨#[]⟩, .int .i64 0, .slice none 0 0]

set_option maxHeartbeats 1000000 in
theorem split_any (leaf : Bool) (lo hi : ByteArray) (r : Int) (p : Option Addr) (len cap : Nat) (l : List En) (id : Int) (w : World) (hlen : l.length = len) (hx : Ens w p l) (hl : len ≤ 3518437208782) (hks : ∀ e ∈ l, e.key.size ≤ 140737488351232) :
    Calls Try.prog 28 #[pgv leaf lo hi r p len cap, .int .i64 id] w fun e w' => ∃ v1 v2, e = .returned (.tuple #[v1, v2, .int .i64 (Pg.split ⟨leaf, lo, hi, r, l⟩ id).2.2]) ∧ PgAt w' w.heap.size v1 (Pg.split ⟨leaf, lo, hi, r, l⟩ id).1 ∧ PgAt w' w.heap.size v2 (Pg.split ⟨leaf, lo, hi, r, l⟩ id).2.1 ∧ Below w.heap.size w w' := by
  obtain ⟨w0, hw0⟩ : ∃ w0, w0 = ((w.alloc (.cells (pgc leaf lo hi r p len cap) 24)).alloc (.cells zc 24)).alloc (.cells zc 24) := ⟨_, rfl⟩
  have HB0 : Hid (Below w.heap.size w w0) := by rw [hw0]; exact (((Below.refl _ _).alloc (Nat.le_refl _) _).alloc (by simp) _).alloc (by simp; omega) _
  have HK0 : Hid (Bk w0 w.heap.size 24 (pgc leaf lo hi r p len cap)) := by rw [hw0]; exact ((Bk.new _ _ _).alloc _).alloc _
  have HR0 : Hid (Bk w0 (w.heap.size + 1) 24 zc) := by rw [hw0]; exact (Bk.new1 _ _ _ _).alloc _
  have HS0 : Hid (Bk w0 (w.heap.size + 1 + 1) 24 zc) := by rw [hw0]; exact Bk.new2 _ _ _ _ _
  have HX : Hid (Ens w p l) := hx
  have HL : Hid (l.length = len) := hlen
  have HKS : Hid (∀ e ∈ l, e.key.size ≤ 140737488351232) := hks
  clear hx hlen hks
  obtain ⟨out, hout⟩ : ∃ out, Pg.split ⟨leaf, lo, hi, r, l⟩ id = out := ⟨_, rfl⟩
  rw [hout]
  have HO : Hid (Pg.split ⟨leaf, lo, hi, r, l⟩ id = out) := hout
  clear hout
  have a0 : w0.cell? ⟨w.heap.size, 0, none⟩ = some (.bool leaf) := HK0.out.cell 0
  have a1 : w0.cell? ⟨w.heap.size, 1, none⟩ = some (.string lo) := HK0.out.cell 1
  have a2 : w0.cell? ⟨w.heap.size, 2, none⟩ = some (.string hi) := HK0.out.cell 2
  have a3 : w0.cell? ⟨w.heap.size, 3, none⟩ = some (.int .i64 r) := HK0.out.cell 3
  have a4 : w0.cell? ⟨w.heap.size, 4, none⟩ = some (.slice p len cap) := HK0.out.cell 4
  have b0 : w0.cell? ⟨w.heap.size + 1, 0, none⟩ = some (.bool false) := HR0.out.cell 0
  have f0 : w0.frozen? ⟨w.heap.size + 1, 0, none⟩ = false := HR0.out.frozen 0
  have b1 : w0.cell? ⟨w.heap.size + 1, 1, none⟩ = some (.string ⟨#[]⟩) := HR0.out.cell 1
  have f1 : w0.frozen? ⟨w.heap.size + 1, 1, none⟩ = false := HR0.out.frozen 1
  have b2 : w0.cell? ⟨w.heap.size + 1, 2, none⟩ = some (.string ⟨#[]⟩) := HR0.out.cell 2
  have f2 : w0.frozen? ⟨w.heap.size + 1, 2, none⟩ = false := HR0.out.frozen 2
  have b3 : w0.cell? ⟨w.heap.size + 1, 3, none⟩ = some (.int .i64 0) := HR0.out.cell 3
  have f3 : w0.frozen? ⟨w.heap.size + 1, 3, none⟩ = false := HR0.out.frozen 3
  have b4 : w0.cell? ⟨w.heap.size + 1, 4, none⟩ = some (.slice none 0 0) := HR0.out.cell 4
  have f4 : w0.frozen? ⟨w.heap.size + 1, 4, none⟩ = false := HR0.out.frozen 4
  have c0 : w0.cell? ⟨w.heap.size + 1 + 1, 0, none⟩ = some (.bool false) := HS0.out.cell 0
  have g0 : w0.frozen? ⟨w.heap.size + 1 + 1, 0, none⟩ = false := HS0.out.frozen 0
  have c1 : w0.cell? ⟨w.heap.size + 1 + 1, 1, none⟩ = some (.string ⟨#[]⟩) := HS0.out.cell 1
  have g1 : w0.frozen? ⟨w.heap.size + 1 + 1, 1, none⟩ = false := HS0.out.frozen 1
  have c2 : w0.cell? ⟨w.heap.size + 1 + 1, 2, none⟩ = some (.string ⟨#[]⟩) := HS0.out.cell 2
  have g2 : w0.frozen? ⟨w.heap.size + 1 + 1, 2, none⟩ = false := HS0.out.frozen 2
  have c3 : w0.cell? ⟨w.heap.size + 1 + 1, 3, none⟩ = some (.int .i64 0) := HS0.out.cell 3
  have g3 : w0.frozen? ⟨w.heap.size + 1 + 1, 3, none⟩ = false := HS0.out.frozen 3
  have c4 : w0.cell? ⟨w.heap.size + 1 + 1, 4, none⟩ = some (.slice none 0 0) := HS0.out.cell 4
  have g4 : w0.frozen? ⟨w.heap.size + 1 + 1, 4, none⟩ = false := HS0.out.frozen 4
  by_cases hid : id < 1
  · have HQ : Hid (out = (Pg.zero, Pg.zero, 1)) := by
      rw [Hid, ← HO.out]; unfold Pg.split; rw [if_pos hid]
    go_enter Try.func28, Try.ntmps28
    go_wp2_with fail
    all_goals try rw [← hw0]
    all_goals try clear hw0
    refine bodyPost_ret (results_pp (cs := [.bool false, .string ⟨#[]⟩, .string ⟨#[]⟩, .int .i64 0, .slice none 0 0]) (ds := [.bool false, .string ⟨#[]⟩, .string ⟨#[]⟩, .int .i64 0, .slice none 0 0]) rfl rfl rfl pg_agg pg_size rfl rfl HR0.out HS0.out) rfl ?_
    rw [HQ.out]
    exact ⟨_, _, rfl, PgAt.zero _ _, PgAt.zero _ _, HB0.out⟩
  · by_cases h2 : len < 2
    · have HQ : Hid (out = (Pg.zero, Pg.zero, 71)) := by
        rw [Hid, ← HO.out]; unfold Pg.split; rw [if_neg hid, if_pos (by show l.length < 2; rw [HL.out]; exact h2)]
      have h2i : (len : Int) < 2 := by omega
      go_enter Try.func28, Try.ntmps28
      go_wp2_with fail
      all_goals try rw [← hw0]
      all_goals try clear hw0
      refine bodyPost_ret (results_pp (cs := [.bool false, .string ⟨#[]⟩, .string ⟨#[]⟩, .int .i64 0, .slice none 0 0]) (ds := [.bool false, .string ⟨#[]⟩, .string ⟨#[]⟩, .int .i64 0, .slice none 0 0]) rfl rfl rfl pg_agg pg_size rfl rfl HR0.out HS0.out) rfl ?_
      rw [HQ.out]
      exact ⟨_, _, rfl, PgAt.zero _ _, PgAt.zero _ _, HB0.out⟩
    · have h2i : ¬ (len : Int) < 2 := by omega
      have HID : Hid (¬ id < 1) := hid
      obtain ⟨i, hi2⟩ : ∃ i, len / 2 = i + 1 := ⟨len / 2 - 1, by omega⟩
      have hil : i + 1 < len := by omega
      go_enter Try.func28, Try.ntmps28
      go_wp2_with fail
      all_goals try rw [← hw0]
      all_goals try clear hw0
      refine (halves_any p len cap l _ HL.out (HX.out.below HB0.out (Nat.le_refl _)) hl (by omega)).mono ?_
      rw [hi2]
      rintro e w1 ⟨g, c, rfl, hsa, hsb, hb1⟩
      obtain ⟨_, _, x, hpx, hgx, -, x0, -, -, -⟩ := hsa.ens.at (j := i) (by rw [hsa.lenq]; omega)
      obtain ⟨_, _, y, hpy, hgy, -, y0, -, -, -⟩ := hsb.ens.at (j := 0) (by rw [hsb.lenq]; omega)
      cases hpx
      cases hpy
      have hgx' : l[i]? = some x := by rw [List.getElem?_take_of_lt (by omega)] at hgx; exact hgx
      have hgy' : l[i + 1]? = some y := by rw [List.getElem?_drop] at hgy; exact hgy
      have hxs : x.key.size ≤ 140737488351232 := HKS.out x (List.mem_of_getElem? hgx')
      have hys : y.key.size ≤ 140737488351232 := HKS.out y (List.mem_of_getElem? hgy')
      have HQ0 : Hid (out = match Pg.part leaf x.key y.key with
          | none => (Pg.zero, Pg.zero, 70)
          | some m => (⟨leaf, lo, m, id, l.take (i + 1)⟩, ⟨leaf, m, hi, r, l.drop (i + 1)⟩, 0)) := by
        rw [Hid, ← HO.out]; unfold Pg.split
        rw [if_neg (by have := HID.out; omega), if_neg (by show ¬ l.length < 2; rw [HL.out]; exact h2)]
        simp only [HL.out, hi2, show i + 1 - 1 = i by omega, Pg.keyAt_some hgx', Pg.keyAt_some hgy']
      have HSA : Hid (Seg w1 w0.heap.size (some ⟨g, 0, none⟩) (i + 1) (i + 1) (l.take (i + 1))) := hsa
      have HSB : Hid (Seg w1 w0.heap.size (some ⟨g, (i + 1) * 4, none⟩) (len - (i + 1)) (c - (i + 1)) (l.drop (i + 1))) := hsb
      have HB1 : Hid (Below w.heap.size w w1) := HB0.out.trans (hb1.mono HB0.out.size)
      have HK1 : Hid (Bk w1 w.heap.size 24 (pgc leaf lo hi r p len cap)) := HK0.out.below hb1 HK0.out.lt
      have HR1 : Hid (Bk w1 (w.heap.size + 1) 24 zc) := HR0.out.below hb1 HR0.out.lt
      have HS1 : Hid (Bk w1 (w.heap.size + 1 + 1) 24 zc) := HS0.out.below hb1 HS0.out.lt
      have HSZ : Hid (w.heap.size + 1 + 1 < w0.heap.size) := HS0.out.lt
      clear a0 a1 a2 a3 a4 b0 b1 b2 b3 b4 c0 c1 c2 c3 c4 f0 f1 f2 f3 f4 g0 g1 g2 g3 g4
      simp only [Nat.zero_mul, Nat.add_zero, Nat.zero_add] at x0 y0
      obtain ⟨xk, xs, xg, xc⟩ := x
      obtain ⟨yk, ys, yg, yc⟩ := y
      simp only at x0 y0 hxs hys HQ0
      have q0 := cell_regrown (show w1.cell? ⟨w.heap.size, 0, none⟩ = some (.bool leaf) from HK1.out.cell 0)
      have qx := cell_regrown x0
      have qy := cell_regrown y0
      have hli : (0 : Int) < ((len - (i + 1) : Nat) : Int) := by omega
      have hlj : (i : Int) < (i : Int) + 1 := by omega
      have hp := fun d os => parting_any leaf xk yk (grow (redrawn w1 d) os) hxs hys
      have HBR : Hid (∀ d os, Below w1.heap.size w1 (grow (redrawn w1 d) os)) := below_regrown w1
      clear hsa hsb hb1 hgx hgy hgx' hgy' x0 y0 hxs hys
      have hcase : (Pg.part leaf xk yk = none ∧ (if leaf then (if Ky.lt xk yk then Value.tuple #[.string (Ky.sep xk yk), .bool true] else .tuple #[.string ⟨#[]⟩, .bool false]) else .tuple #[.string yk, .bool true]) = .tuple #[.string ⟨#[]⟩, .bool false]) ∨
          ∃ m, Pg.part leaf xk yk = some m ∧ (if leaf then (if Ky.lt xk yk then Value.tuple #[.string (Ky.sep xk yk), .bool true] else .tuple #[.string ⟨#[]⟩, .bool false]) else .tuple #[.string yk, .bool true]) = .tuple #[.string m, .bool true] := by
        unfold Pg.part
        cases leaf with
        | false => exact .inr ⟨yk, rfl, rfl⟩
        | true =>
          cases Ky.lt xk yk with
          | false => exact .inl ⟨rfl, rfl⟩
          | true => exact .inr ⟨_, rfl, rfl⟩
      rcases hcase with ⟨hpn, hpv⟩ | ⟨m, hpn, hpv⟩
      · rw [hpn] at HQ0
        have HQ : Hid (out = (Pg.zero, Pg.zero, 70)) := HQ0
        have cP : ∀ d os, Calls Try.prog 52 #[.bool leaf, .string xk, .string yk] (grow (redrawn w1 d) os) fun e w'' => e = .returned (.tuple #[.string ⟨#[]⟩, .bool false]) ∧ ∃ p : Regrown, w'' = grow (redrawn w1 p.d) p.os := fun d os => Calls.regrown_of (by have := hp d os; rw [hpv] at this; exact this)
        clear hp hpv hpn HQ0
        go_wp2_with fail
        refine wp_region_quiet_below (by kernel_rfl) (by kernel_rfl) ?_
        repeat (go_big_quiet_step (first | exact cP _ _))
        refine wpQuiet_nil ?_
        intro _ hw'
        obtain ⟨⟨dq, osq⟩, hw''⟩ := hw'
        subst hw''
        clear cP q0 qx qy
        obtain ⟨wq, hwq⟩ : ∃ wq, wq = grow (redrawn w1 dq) osq := ⟨_, rfl⟩
        have HBw : Hid (Below w1.heap.size w1 wq) := by rw [hwq]; exact HBR.out dq osq
        have HBq : Hid (Below w.heap.size w wq) := HB1.out.trans (HBw.out.mono HB1.out.size)
        have HKq : Hid (Bk wq w.heap.size 24 (pgc leaf lo hi r p len cap)) := HK1.out.below HBw.out HK1.out.lt
        have HRq : Hid (Bk wq (w.heap.size + 1) 24 zc) := HR1.out.below HBw.out HR1.out.lt
        have HSq : Hid (Bk wq (w.heap.size + 1 + 1) 24 zc) := HS1.out.below HBw.out HS1.out.lt
        rw [← hwq]
        clear hwq
        have b0 : wq.cell? ⟨w.heap.size + 1, 0, none⟩ = some (.bool false) := HRq.out.cell 0
        have f0 : wq.frozen? ⟨w.heap.size + 1, 0, none⟩ = false := HRq.out.frozen 0
        have b1 : wq.cell? ⟨w.heap.size + 1, 1, none⟩ = some (.string ⟨#[]⟩) := HRq.out.cell 1
        have f1 : wq.frozen? ⟨w.heap.size + 1, 1, none⟩ = false := HRq.out.frozen 1
        have b2 : wq.cell? ⟨w.heap.size + 1, 2, none⟩ = some (.string ⟨#[]⟩) := HRq.out.cell 2
        have f2 : wq.frozen? ⟨w.heap.size + 1, 2, none⟩ = false := HRq.out.frozen 2
        have b3 : wq.cell? ⟨w.heap.size + 1, 3, none⟩ = some (.int .i64 0) := HRq.out.cell 3
        have f3 : wq.frozen? ⟨w.heap.size + 1, 3, none⟩ = false := HRq.out.frozen 3
        have b4 : wq.cell? ⟨w.heap.size + 1, 4, none⟩ = some (.slice none 0 0) := HRq.out.cell 4
        have f4 : wq.frozen? ⟨w.heap.size + 1, 4, none⟩ = false := HRq.out.frozen 4
        have c0 : wq.cell? ⟨w.heap.size + 1 + 1, 0, none⟩ = some (.bool false) := HSq.out.cell 0
        have g0 : wq.frozen? ⟨w.heap.size + 1 + 1, 0, none⟩ = false := HSq.out.frozen 0
        have c1 : wq.cell? ⟨w.heap.size + 1 + 1, 1, none⟩ = some (.string ⟨#[]⟩) := HSq.out.cell 1
        have g1 : wq.frozen? ⟨w.heap.size + 1 + 1, 1, none⟩ = false := HSq.out.frozen 1
        have c2 : wq.cell? ⟨w.heap.size + 1 + 1, 2, none⟩ = some (.string ⟨#[]⟩) := HSq.out.cell 2
        have g2 : wq.frozen? ⟨w.heap.size + 1 + 1, 2, none⟩ = false := HSq.out.frozen 2
        have c3 : wq.cell? ⟨w.heap.size + 1 + 1, 3, none⟩ = some (.int .i64 0) := HSq.out.cell 3
        have g3 : wq.frozen? ⟨w.heap.size + 1 + 1, 3, none⟩ = false := HSq.out.frozen 3
        have c4 : wq.cell? ⟨w.heap.size + 1 + 1, 4, none⟩ = some (.slice none 0 0) := HSq.out.cell 4
        have g4 : wq.frozen? ⟨w.heap.size + 1 + 1, 4, none⟩ = false := HSq.out.frozen 4
        go_wp2_with fail
        obtain ⟨we, hwe⟩ : ∃ we, we = put5 (put5 wq (w.heap.size + 1) (.bool false) (.string ⟨#[]⟩) (.string ⟨#[]⟩) (.int .i64 0) (.slice none 0 0)) (w.heap.size + 1 + 1) (.bool false) (.string ⟨#[]⟩) (.string ⟨#[]⟩) (.int .i64 0) (.slice none 0 0) := ⟨_, rfl⟩
        have hA : Bk we (w.heap.size + 1) 24 #[.bool false, .string ⟨#[]⟩, .string ⟨#[]⟩, .int .i64 0, .slice none 0 0] := by rw [hwe]; exact (Bk.five HRq.out _ _ _ _ _).fiveO (by simp) _ _ _ _ _
        have hC : Bk we (w.heap.size + 1 + 1) 24 #[.bool false, .string ⟨#[]⟩, .string ⟨#[]⟩, .int .i64 0, .slice none 0 0] := by rw [hwe]; exact Bk.five (HSq.out.fiveO (by simp) _ _ _ _ _) _ _ _ _ _
        have ht : Tn [w.heap.size + 1, w.heap.size + 1 + 1] wq we := by rw [hwe]; exact ((Tn.refl _ _).five (.inl (by simp)) _ _ _ _ _).five (.inl (by simp)) _ _ _ _ _
        unfold put5 at hwe
        rw [← hwe]
        clear hwe
        refine bodyPost_ret (results_pp (cs := [.bool false, .string ⟨#[]⟩, .string ⟨#[]⟩, .int .i64 0, .slice none 0 0]) (ds := [.bool false, .string ⟨#[]⟩, .string ⟨#[]⟩, .int .i64 0, .slice none 0 0]) rfl rfl rfl pg_agg pg_size rfl rfl hA hC) rfl ?_
        rw [HQ.out]
        exact ⟨_, _, rfl, PgAt.zero _ _, PgAt.zero _ _, HBq.out.trans (ht.below HBq.out.size (by simp; omega))⟩
      · rw [hpn] at HQ0
        have HQ : Hid (out = (⟨leaf, lo, m, id, l.take (i + 1)⟩, ⟨leaf, m, hi, r, l.drop (i + 1)⟩, 0)) := HQ0
        have cP : ∀ d os, Calls Try.prog 52 #[.bool leaf, .string xk, .string yk] (grow (redrawn w1 d) os) fun e w'' => e = .returned (.tuple #[.string m, .bool true]) ∧ ∃ p : Regrown, w'' = grow (redrawn w1 p.d) p.os := fun d os => Calls.regrown_of (by have := hp d os; rw [hpv] at this; exact this)
        clear hp hpv hpn HQ0
        go_wp2_with fail
        refine wp_region_quiet_below (by kernel_rfl) (by kernel_rfl) ?_
        repeat (go_big_quiet_step (first | exact cP _ _))
        refine wpQuiet_nil ?_
        intro _ hw'
        obtain ⟨⟨dq, osq⟩, hw''⟩ := hw'
        subst hw''
        clear cP q0 qx qy
        obtain ⟨wq, hwq⟩ : ∃ wq, wq = grow (redrawn w1 dq) osq := ⟨_, rfl⟩
        have HBw : Hid (Below w1.heap.size w1 wq) := by rw [hwq]; exact HBR.out dq osq
        have HBq : Hid (Below w.heap.size w wq) := HB1.out.trans (HBw.out.mono HB1.out.size)
        have HKq : Hid (Bk wq w.heap.size 24 (pgc leaf lo hi r p len cap)) := HK1.out.below HBw.out HK1.out.lt
        have HRq : Hid (Bk wq (w.heap.size + 1) 24 zc) := HR1.out.below HBw.out HR1.out.lt
        have HSq : Hid (Bk wq (w.heap.size + 1 + 1) 24 zc) := HS1.out.below HBw.out HS1.out.lt
        rw [← hwq]
        clear hwq
        have a0 : wq.cell? ⟨w.heap.size, 0, none⟩ = some (.bool leaf) := HKq.out.cell 0
        have a1 : wq.cell? ⟨w.heap.size, 1, none⟩ = some (.string lo) := HKq.out.cell 1
        have a2 : wq.cell? ⟨w.heap.size, 2, none⟩ = some (.string hi) := HKq.out.cell 2
        have a3 : wq.cell? ⟨w.heap.size, 3, none⟩ = some (.int .i64 r) := HKq.out.cell 3
        have a4 : wq.cell? ⟨w.heap.size, 4, none⟩ = some (.slice p len cap) := HKq.out.cell 4
        obtain ⟨wa, hwa⟩ : ∃ wa, wq.alloc (.cells #[.bool leaf, .string lo, .string m, .int .i64 id, .slice (some ⟨g, 0, none⟩) (i + 1) (i + 1)] 24) = wa := ⟨_, rfl⟩
        obtain ⟨w3, hw3⟩ : ∃ w3, wa.alloc (.cells #[.bool leaf, .string m, .string hi, .int .i64 r, .slice (some ⟨g, (i + 1) * 4, none⟩) (len - (i + 1)) (c - (i + 1))] 24) = w3 := ⟨_, rfl⟩
        have hba : Below wq.heap.size wq wa := by rw [← hwa]; exact (Below.refl _ _).alloc (Nat.le_refl _) _
        have hsa : wa.heap.size = wq.heap.size + 1 := by rw [← hwa]; simp
        have hb3 : Below wq.heap.size wq w3 := by rw [← hw3]; exact hba.alloc hba.size _
        have HA3 : Hid (Bk w3 wq.heap.size 24 (pgc leaf lo m id (some ⟨g, 0, none⟩) (i + 1) (i + 1))) := by rw [← hw3, ← hwa]; exact (Bk.new _ _ _).alloc _
        have HC3 : Hid (Bk w3 (wq.heap.size + 1) 24 (pgc leaf m hi r (some ⟨g, (i + 1) * 4, none⟩) (len - (i + 1)) (c - (i + 1)))) := by rw [← hw3, ← hwa]; exact Bk.new1 _ _ _ _
        have HKa : Hid (Bk wa w.heap.size 24 (pgc leaf lo hi r p len cap)) := HKq.out.below hba HKq.out.lt
        have d0 : wa.cell? ⟨w.heap.size, 0, none⟩ = some (.bool leaf) := HKa.out.cell 0
        have d2 : wa.cell? ⟨w.heap.size, 2, none⟩ = some (.string hi) := HKa.out.cell 2
        have d3 : wa.cell? ⟨w.heap.size, 3, none⟩ = some (.int .i64 r) := HKa.out.cell 3
        have HB3 : Hid (Below w.heap.size w w3) := HBq.out.trans (hb3.mono HBq.out.size)
        have HR3 : Hid (Bk w3 (w.heap.size + 1) 24 zc) := HRq.out.below hb3 HRq.out.lt
        have HS3 : Hid (Bk w3 (w.heap.size + 1 + 1) 24 zc) := HSq.out.below hb3 HSq.out.lt
        have HSA3 : Hid (Seg w3 w0.heap.size (some ⟨g, 0, none⟩) (i + 1) (i + 1) (l.take (i + 1))) := (HSA.out.below HBw.out (Nat.le_refl _)).below hb3 (Nat.le_refl _)
        have HSB3 : Hid (Seg w3 w0.heap.size (some ⟨g, (i + 1) * 4, none⟩) (len - (i + 1)) (c - (i + 1)) (l.drop (i + 1))) := (HSB.out.below HBw.out (Nat.le_refl _)).below hb3 (Nat.le_refl _)
        have HQL : Hid (w.heap.size + 1 + 1 < wq.heap.size) := HSq.out.lt
        clear hb3
        go_wp2_with fail
        clear hw3 hwa hba a0 a1 a2 a3 a4 d0 d2 d3
        have b0 : w3.cell? ⟨w.heap.size + 1, 0, none⟩ = some (.bool false) := HR3.out.cell 0
        have f0 : w3.frozen? ⟨w.heap.size + 1, 0, none⟩ = false := HR3.out.frozen 0
        have b1 : w3.cell? ⟨w.heap.size + 1, 1, none⟩ = some (.string ⟨#[]⟩) := HR3.out.cell 1
        have f1 : w3.frozen? ⟨w.heap.size + 1, 1, none⟩ = false := HR3.out.frozen 1
        have b2 : w3.cell? ⟨w.heap.size + 1, 2, none⟩ = some (.string ⟨#[]⟩) := HR3.out.cell 2
        have f2 : w3.frozen? ⟨w.heap.size + 1, 2, none⟩ = false := HR3.out.frozen 2
        have b3 : w3.cell? ⟨w.heap.size + 1, 3, none⟩ = some (.int .i64 0) := HR3.out.cell 3
        have f3 : w3.frozen? ⟨w.heap.size + 1, 3, none⟩ = false := HR3.out.frozen 3
        have b4 : w3.cell? ⟨w.heap.size + 1, 4, none⟩ = some (.slice none 0 0) := HR3.out.cell 4
        have f4 : w3.frozen? ⟨w.heap.size + 1, 4, none⟩ = false := HR3.out.frozen 4
        have c0 : w3.cell? ⟨w.heap.size + 1 + 1, 0, none⟩ = some (.bool false) := HS3.out.cell 0
        have g0 : w3.frozen? ⟨w.heap.size + 1 + 1, 0, none⟩ = false := HS3.out.frozen 0
        have c1 : w3.cell? ⟨w.heap.size + 1 + 1, 1, none⟩ = some (.string ⟨#[]⟩) := HS3.out.cell 1
        have g1 : w3.frozen? ⟨w.heap.size + 1 + 1, 1, none⟩ = false := HS3.out.frozen 1
        have c2 : w3.cell? ⟨w.heap.size + 1 + 1, 2, none⟩ = some (.string ⟨#[]⟩) := HS3.out.cell 2
        have g2 : w3.frozen? ⟨w.heap.size + 1 + 1, 2, none⟩ = false := HS3.out.frozen 2
        have c3 : w3.cell? ⟨w.heap.size + 1 + 1, 3, none⟩ = some (.int .i64 0) := HS3.out.cell 3
        have g3 : w3.frozen? ⟨w.heap.size + 1 + 1, 3, none⟩ = false := HS3.out.frozen 3
        have c4 : w3.cell? ⟨w.heap.size + 1 + 1, 4, none⟩ = some (.slice none 0 0) := HS3.out.cell 4
        have g4 : w3.frozen? ⟨w.heap.size + 1 + 1, 4, none⟩ = false := HS3.out.frozen 4
        have k0 : w3.cell? ⟨wq.heap.size, 0, none⟩ = some (.bool leaf) := HA3.out.cell 0
        have k1 : w3.cell? ⟨wq.heap.size, 1, none⟩ = some (.string lo) := HA3.out.cell 1
        have k2 : w3.cell? ⟨wq.heap.size, 2, none⟩ = some (.string m) := HA3.out.cell 2
        have k3 : w3.cell? ⟨wq.heap.size, 3, none⟩ = some (.int .i64 id) := HA3.out.cell 3
        have k4 : w3.cell? ⟨wq.heap.size, 4, none⟩ = some (.slice (some ⟨g, 0, none⟩) (i + 1) (i + 1)) := HA3.out.cell 4
        have l0 : w3.cell? ⟨wq.heap.size + 1, 0, none⟩ = some (.bool leaf) := HC3.out.cell 0
        have l1 : w3.cell? ⟨wq.heap.size + 1, 1, none⟩ = some (.string m) := HC3.out.cell 1
        have l2 : w3.cell? ⟨wq.heap.size + 1, 2, none⟩ = some (.string hi) := HC3.out.cell 2
        have l3 : w3.cell? ⟨wq.heap.size + 1, 3, none⟩ = some (.int .i64 r) := HC3.out.cell 3
        have l4 : w3.cell? ⟨wq.heap.size + 1, 4, none⟩ = some (.slice (some ⟨g, (i + 1) * 4, none⟩) (len - (i + 1)) (c - (i + 1))) := HC3.out.cell 4
        have n1 : ¬ wq.heap.size = w.heap.size + 1 := by have := HQL.out; omega
        have n2 : ¬ wq.heap.size + 1 = w.heap.size + 1 := by have := HQL.out; omega
        have n3 : ¬ wq.heap.size = w.heap.size := by have := HQL.out; omega
        have n4 : ¬ wq.heap.size = w.heap.size + 1 + 1 := by have := HQL.out; omega
        have n5 : ¬ wq.heap.size + 1 = w.heap.size + 1 + 1 := by have := HQL.out; omega
        go_region
        go_wp2
        obtain ⟨we, hwe⟩ : ∃ we, we = (put5 (put5 w3 (w.heap.size + 1) (.bool leaf) (.string lo) (.string m) (.int .i64 id) (.slice (some ⟨g, 0, none⟩) (i + 1) (i + 1))) (w.heap.size + 1 + 1) (.bool leaf) (.string m) (.string hi) (.int .i64 r) (.slice (some ⟨g, (i + 1) * 4, none⟩) (len - (i + 1)) (c - (i + 1)))).drew := ⟨_, rfl⟩
        have hA : Bk we (w.heap.size + 1) 24 #[.bool leaf, .string lo, .string m, .int .i64 id, .slice (some ⟨g, 0, none⟩) (i + 1) (i + 1)] := by rw [hwe]; exact ((Bk.five HR3.out _ _ _ _ _).fiveO (by simp) _ _ _ _ _).drew
        have hC : Bk we (w.heap.size + 1 + 1) 24 #[.bool leaf, .string m, .string hi, .int .i64 r, .slice (some ⟨g, (i + 1) * 4, none⟩) (len - (i + 1)) (c - (i + 1))] := by rw [hwe]; exact (Bk.five (HS3.out.fiveO (by simp) _ _ _ _ _) _ _ _ _ _).drew
        have ht : Tn [w.heap.size + 1, w.heap.size + 1 + 1] w3 we := by rw [hwe]; exact (((Tn.refl _ _).five (.inl (by simp)) _ _ _ _ _).five (.inl (by simp)) _ _ _ _ _).drew
        unfold put5 at hwe
        rw [← hwe]
        clear hwe
        refine bodyPost_ret (results_pp (cs := [.bool leaf, .string lo, .string m, .int .i64 id, .slice (some ⟨g, 0, none⟩) (i + 1) (i + 1)]) (ds := [.bool leaf, .string m, .string hi, .int .i64 r, .slice (some ⟨g, (i + 1) * 4, none⟩) (len - (i + 1)) (c - (i + 1))]) rfl rfl rfl pg_agg pg_size rfl rfl hA hC) rfl ?_
        rw [HQ.out]
        have hz := HSZ.out
        have hT : (l.take (i + 1)).length = i + 1 := HSA3.out.lenq
        have hD : (l.drop (i + 1)).length = len - (i + 1) := HSB3.out.lenq
        refine ⟨_, _, rfl, ⟨some ⟨g, 0, none⟩, i + 1, by simp only [hT], ?_⟩, ⟨some ⟨g, (i + 1) * 4, none⟩, c - (i + 1), by simp only [hD], ?_⟩, HB3.out.trans (ht.below HB3.out.size (by simp; omega))⟩
        · simp only [hT]
          exact (HSA3.out.tn ht (by simp; omega)).mono HB0.out.size
        · simp only [hD]
          exact (HSB3.out.tn ht (by simp; omega)).mono HB0.out.size

end Go.Proofs.Ytakibndjmhadnaa
