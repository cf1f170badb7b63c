/- Put (the code's). -/
import Derived.Test.YtoehlgigidgfpaaGreatPgFe
import Derived.Test.YtoehlgigidgfpaaGreatPgIns
namespace Go.Proofs.YtoehlgigidgfpaaGreat
open Go.RowKit Go.Sort
set_option linter.unusedVariables false
set_option maxRecDepth 100000


theorem put1_any (key : ByteArray) (e : En) (w : World) (B : Nat) (hf : Bk w B 33 #[.string e.key, .int .i64 e.s, .int .i64 e.g, .int .i64 e.c]) : TstK 162 #[.pointer (some ⟨B, 0, none⟩)] (fun k => Ky.lt e.key k) w := by
  intro W k hb
  have hf' := hf.below hb hf.lt
  have f0 : W.cell? ⟨B, 0, none⟩ = some (.string e.key) := hf'.cell 0
  have HE : Hid (Ky.lt e.key k = (!Op.bytesLess k.toList e.key.toList && !k.toList == e.key.toList)) := by rw [Hid, Ky.gtr_iff]; rfl
  clear hf hf' hb
  show Calls Tryz.prog 162 #[.string k, .pointer (some ⟨B, 0, none⟩)] W _
  go_enter Tryz.func162, Tryz.ntmps162
  go_wp2
  go_ret
  exact ⟨by rw [HE.out]; rfl, Below.refl _ _⟩

namespace Pg
/-- The entries with one put. -/
def putL (l : List En) (e : En) : List En := if l.any (is e.key) then l.set (l.findIdx (is e.key)) e else ins l (l.findIdx fun x => Ky.lt e.key x.key) e
/-- A page with an entry. -/
def put (g : Pp) (e : En) : Pp × Int := if Ky.inn ⟨g.lo, g.hi⟩ e.key then (⟨g.leaf, g.lo, g.hi, g.r, putL g.l e⟩, 0) else (zero, 73)
end Pg

theorem flatE_set (l : List En) (i : Nat) (e : En) (hi : i < l.length) : flatE (l.set i e) = flatE (l.take i) ++ En.cells e ++ flatE (l.drop (i + 1)) := by
  rw [List.set_eq_take_append_cons_drop, if_pos hi, flatE_append, show e :: l.drop (i + 1) = [e] ++ l.drop (i + 1) from rfl, flatE_append, ← List.append_assoc]
  simp [flatE]

/-- Four cells of a block written, from a place on. -/
abbrev put4i (w : World) (R o : Nat) (a b c d : Value) : World := (((w.setCell ⟨R, o, none⟩ a).setCell ⟨R, o + 1, none⟩ b).setCell ⟨R, o + 2, none⟩ c).setCell ⟨R, o + 3, none⟩ d
theorem Bk.four4 {w : World} {R : Nat} {T : TypeId} {cs : Array Value} (h : Bk w R T cs) (o : Nat) (a b c d : Value) : Bk (put4i w R o a b c d) R T ((((cs.setIfInBounds o a).setIfInBounds (o + 1) b).setIfInBounds (o + 2) c).setIfInBounds (o + 3) d) :=
  (((h.set o a).set (o + 1) b).set (o + 2) c).set (o + 3) d
theorem Tn.four4 {S : List Nat} {a0 w : World} (h : Tn S a0 w) {R : Nat} (hp : R ∈ S ∨ a0.heap.size ≤ R) (o : Nat) (a b c d : Value) : Tn S a0 (put4i w R o a b c d) :=
  (((h.setCell (p := ⟨R, o, none⟩) hp a).setCell (p := ⟨R, o + 1, none⟩) hp b).setCell (p := ⟨R, o + 2, none⟩) hp c).setCell (p := ⟨R, o + 3, none⟩) hp d

/-- An entry of a row is written over. -/
theorem OwnE.over {w : World} {base : Nat} {g n c : Nat} {l : List En} (h : OwnE w base (.slice (some ⟨g, 0, none⟩) n c) l) (hn : l.length = n) {i : Nat} (hi : i < n) (e : En) :
    OwnE (put4i w g (i * 4) (.string e.key) (.int .i64 e.s) (.int .i64 e.g) (.int .i64 e.c)) base (.slice (some ⟨g, 0, none⟩) n c) (l.set i e) := by
  rcases h.2 with ⟨hv0, hn0⟩ | ⟨g', cp, cur, hvv, hbg, hgk, hnc2, hcm, hcur, htake⟩
  · cases hv0
  simp only [Value.slice.injEq, Option.some.injEq, Addr.mk.injEq, and_true] at hvv
  obtain ⟨rfl, -, rfl⟩ := hvv
  rw [hn] at htake hnc2
  have hb := Bk.four4 (show Bk w g 33 cur from hgk) (i * 4) (.string e.key) (.int .i64 e.s) (.int .i64 e.g) (.int .i64 e.c)
  refine ⟨flatE_len _, .inr ⟨g, c, _, by rw [List.length_set, hn], hbg, hb, by rw [List.length_set, hn]; exact hnc2, hcm, by simp [hcur], ?_⟩⟩
  rw [List.length_set, hn, flatE_set l i e (by omega)]
  have hAl : (flatE (l.take i)).length = i * 4 := by rw [flatE_len, List.length_take]; omega
  apply List.ext_getElem?
  intro j
  have hcurl : ∀ j, j < n * 4 → cur[j]? = (flatE l)[j]? := fun j hj => by
    rw [← htake, List.getElem?_take_of_lt hj]; simp
  have hfl : flatE l = flatE (l.take i) ++ flatE (l.drop i) := flatE_split l i
  have hdl : l.drop i = l[i] :: l.drop (i + 1) := List.drop_eq_getElem_cons (by omega)
  have hf2 : flatE (l.drop i) = En.cells l[i] ++ flatE (l.drop (i + 1)) := by rw [hdl]; rfl
  by_cases hj : j < n * 4
  · rw [List.getElem?_take_of_lt hj]
    simp only [Array.getElem?_toList, Array.getElem?_setIfInBounds, Array.size_setIfInBounds, hcur]
    by_cases h1 : j < i * 4
    · rw [List.append_assoc, List.getElem?_append_left (by omega)]
      rw [if_neg (by omega), if_neg (by omega), if_neg (by omega), if_neg (by omega), hcurl j hj, hfl, List.getElem?_append_left (by omega)]
    · by_cases h2 : j < i * 4 + 4
      · rw [List.getElem?_append_left (by simp [hAl, En.cells]; omega), List.getElem?_append_right (by omega), hAl]
        have h3 : j = i * 4 ∨ j = i * 4 + 1 ∨ j = i * 4 + 2 ∨ j = i * 4 + 3 := by omega
        rcases h3 with rfl | rfl | rfl | rfl
        · rw [if_neg (by omega), if_neg (by omega), if_neg (by omega), if_pos rfl, if_pos (by omega), Nat.sub_self]; rfl
        · rw [if_neg (by omega), if_neg (by omega), if_pos rfl, if_pos (by omega), show i * 4 + 1 - i * 4 = 1 by omega]; rfl
        · rw [if_neg (by omega), if_pos rfl, if_pos (by omega), show i * 4 + 2 - i * 4 = 2 by omega]; rfl
        · rw [if_pos rfl, if_pos (by omega), show i * 4 + 3 - i * 4 = 3 by omega]; rfl
      · rw [List.getElem?_append_right (by simp [hAl, En.cells]; omega)]
        rw [if_neg (by omega), if_neg (by omega), if_neg (by omega), if_neg (by omega), hcurl j hj, hfl, List.getElem?_append_right (by omega), hf2, List.getElem?_append_right (by simp [hAl, En.cells]; omega)]
        simp [hAl, En.cells]
        rw [Nat.sub_sub]
  · rw [List.getElem?_take_eq_none (by omega), List.getElem?_eq_none]
    simp only [List.length_append, hAl, flatE_len, List.length_drop, En.cells, List.length_cons, List.length_nil]
    omega


set_option maxHeartbeats 4000000 in
theorem put_any (leaf : Bool) (lo hi : ByteArray) (r : Int) (p : Option Addr) (len cap : Nat) (l : List En) (e : En) (w : World) (hlen : l.length = len) (hx : Ens w p l) (hl : len ≤ 3518437208782) (hp : p = none → len = 0 ∧ cap = 0) :
    Calls Tryz.prog 145 #[pgv leaf lo hi r p len cap, e.val] w fun x w' => ∃ v, x = .returned (.tuple #[v, .int .i64 (Pg.put ⟨leaf, lo, hi, r, l⟩ e).2]) ∧ PgAt w' w.heap.size v (Pg.put ⟨leaf, lo, hi, r, l⟩ e).1 ∧ Below w.heap.size w w' := by
  have egp : ∀ args w, (callFunc 162 args).run Tryz.prog w = .ok (.enter 162 args) w := enters_of Tryz.func162 (by kernel_rfl) rfl
  obtain ⟨w0, hw0⟩ : ∃ w0, ((w.alloc (.cells #[.bool leaf, .string lo, .string hi, .int .i64 r, .slice p len cap] 29)).alloc (.cells #[.string e.key, .int .i64 e.s, .int .i64 e.g, .int .i64 e.c] 33)).alloc (.cells zc 29) = w0 := ⟨_, rfl⟩
  have HB0 : Hid (Below w.heap.size w w0) := by rw [← hw0]; exact (((Below.refl _ _).alloc (Nat.le_refl _) _).alloc (by simp) _).alloc (by simp; omega) _
  have HK0 : Hid (Bk w0 w.heap.size 29 #[.bool leaf, .string lo, .string hi, .int .i64 r, .slice p len cap]) := by rw [← hw0]; exact ((Bk.new _ _ _).alloc _).alloc _
  have HE0 : Hid (Bk w0 (w.heap.size + 1) 33 #[.string e.key, .int .i64 e.s, .int .i64 e.g, .int .i64 e.c]) := by rw [← hw0]; exact (Bk.new1 _ _ _ _).alloc _
  have HR0 : Hid (Bk w0 (w.heap.size + 1 + 1) 29 zc) := by rw [← hw0]; exact Bk.new2 _ _ _ _ _
  have HX : Hid (Ens w p l) := hx
  have HL : Hid (l.length = len) := hlen
  have HP : Hid (p = none → len = 0 ∧ cap = 0) := hp
  clear hx hlen hp
  obtain ⟨out, hout⟩ : ∃ out, Pg.put ⟨leaf, lo, hi, r, l⟩ e = out := ⟨_, rfl⟩
  rw [hout]
  have HO : Hid (out = if Ky.inn ⟨lo, hi⟩ e.key then (⟨leaf, lo, hi, r, Pg.putL l e⟩, 0) else (Pg.zero, 73)) := hout.symm
  clear hout
  have a0 : w0.cell? ⟨w.heap.size, 0, none⟩ = some (.bool leaf) := HK0.out.cell 0
  have a1 : w0.cell? ⟨w.heap.size, 1, none⟩ = some (.string lo) := HK0.out.cell 1
  have a2 : w0.cell? ⟨w.heap.size, 2, none⟩ = some (.string hi) := HK0.out.cell 2
  have a3 : w0.cell? ⟨w.heap.size, 3, none⟩ = some (.int .i64 r) := HK0.out.cell 3
  have a4 : w0.cell? ⟨w.heap.size, 4, none⟩ = some (.slice p len cap) := HK0.out.cell 4
  have e0 : w0.cell? ⟨w.heap.size + 1, 0, none⟩ = some (.string e.key) := HE0.out.cell 0
  go_enter Tryz.func145, Tryz.ntmps145
  go_wp2_with fail
  clear hw0 e0 a0 a1 a2 a3 a4
  refine (has_any leaf lo hi r p len cap _ e.key).mono ?_
  rintro x w1 ⟨rfl, hb1⟩
  have HB1 : Hid (Below w.heap.size w w1) := HB0.out.trans (hb1.mono HB0.out.size)
  have HK1 : Hid (Bk w1 w.heap.size 29 #[.bool leaf, .string lo, .string hi, .int .i64 r, .slice p len cap]) := HK0.out.below hb1 HK0.out.lt
  have HE1 : Hid (Bk w1 (w.heap.size + 1) 33 #[.string e.key, .int .i64 e.s, .int .i64 e.g, .int .i64 e.c]) := HE0.out.below hb1 HE0.out.lt
  have HR1 : Hid (Bk w1 (w.heap.size + 1 + 1) 29 zc) := HR0.out.below hb1 HR0.out.lt
  clear hb1
  cases hin : Ky.inn ⟨lo, hi⟩ e.key with
  | false =>
    rw [hin] at HO
    have HQ : Hid (out = (Pg.zero, 73)) := HO.out
    clear HO hin
    have b0 : w1.cell? ⟨w.heap.size + 1 + 1, 0, none⟩ = some (.bool false) := HR1.out.cell 0
    have f0 : w1.frozen? ⟨w.heap.size + 1 + 1, 0, none⟩ = false := HR1.out.frozen 0
    have b1 : w1.cell? ⟨w.heap.size + 1 + 1, 1, none⟩ = some (.string ⟨#[]⟩) := HR1.out.cell 1
    have f1 : w1.frozen? ⟨w.heap.size + 1 + 1, 1, none⟩ = false := HR1.out.frozen 1
    have b2 : w1.cell? ⟨w.heap.size + 1 + 1, 2, none⟩ = some (.string ⟨#[]⟩) := HR1.out.cell 2
    have f2 : w1.frozen? ⟨w.heap.size + 1 + 1, 2, none⟩ = false := HR1.out.frozen 2
    have b3 : w1.cell? ⟨w.heap.size + 1 + 1, 3, none⟩ = some (.int .i64 0) := HR1.out.cell 3
    have f3 : w1.frozen? ⟨w.heap.size + 1 + 1, 3, none⟩ = false := HR1.out.frozen 3
    have b4 : w1.cell? ⟨w.heap.size + 1 + 1, 4, none⟩ = some (.slice none 0 0) := HR1.out.cell 4
    have f4 : w1.frozen? ⟨w.heap.size + 1 + 1, 4, none⟩ = false := HR1.out.frozen 4
    go_wp2
    obtain ⟨we, hwe⟩ : ∃ we, we = put5 w1 (w.heap.size + 1 + 1) (.bool false) (.string ⟨#[]⟩) (.string ⟨#[]⟩) (.int .i64 0) (.slice none 0 0) := ⟨_, rfl⟩
    have hA : Bk we (w.heap.size + 1 + 1) 29 #[.bool false, .string ⟨#[]⟩, .string ⟨#[]⟩, .int .i64 0, .slice none 0 0] := by rw [hwe]; exact Bk.five HR1.out _ _ _ _ _
    have ht : Tn [w.heap.size + 1 + 1] w1 we := by rw [hwe]; exact (Tn.refl _ _).five (.inl (by simp)) _ _ _ _ _
    unfold put5 at hwe
    rw [← hwe]
    clear hwe
    refine bodyPost_ret (results_two (cs := [.bool false, .string ⟨#[]⟩, .string ⟨#[]⟩, .int .i64 0, .slice none 0 0]) rfl rfl pg_agg pg_size rfl hA) rfl ?_
    rw [HQ.out]
    exact ⟨_, rfl, PgAt.zero _ _, HB1.out.trans (ht.below HB1.out.size (by simp; try omega))⟩
  | true =>
    rw [hin] at HO
    have HQ0 : Hid (out = (⟨leaf, lo, hi, r, Pg.putL l e⟩, 0)) := HO.out
    clear HO hin
    have a0 : w1.cell? ⟨w.heap.size, 0, none⟩ = some (.bool leaf) := HK1.out.cell 0
    have a1 : w1.cell? ⟨w.heap.size, 1, none⟩ = some (.string lo) := HK1.out.cell 1
    have a2 : w1.cell? ⟨w.heap.size, 2, none⟩ = some (.string hi) := HK1.out.cell 2
    have a3 : w1.cell? ⟨w.heap.size, 3, none⟩ = some (.int .i64 r) := HK1.out.cell 3
    have a4 : w1.cell? ⟨w.heap.size, 4, none⟩ = some (.slice p len cap) := HK1.out.cell 4
    go_wp2_with fail
    refine (pclone_any leaf lo hi r p len cap l _ HL.out (HX.out.below HB1.out (Nat.le_refl _)) hl (fun hh => (HP.out hh).1)).mono ?_
    rintro x w2 ⟨p2, c2, rfl, ho2, hb2⟩
    have HB2 : Hid (Below w.heap.size w w2) := HB1.out.trans (hb2.mono HB1.out.size)
    have HK2 : Hid (Bk w2 w.heap.size 29 #[.bool leaf, .string lo, .string hi, .int .i64 r, .slice p len cap]) := HK1.out.below hb2 HK1.out.lt
    have HE2 : Hid (Bk w2 (w.heap.size + 1) 33 #[.string e.key, .int .i64 e.s, .int .i64 e.g, .int .i64 e.c]) := HE1.out.below hb2 HE1.out.lt
    have HR2 : Hid (Bk w2 (w.heap.size + 1 + 1) 29 zc) := HR1.out.below hb2 HR1.out.lt
    have HLT : Hid (w.heap.size + 1 + 1 < w1.heap.size) := HR1.out.lt
    obtain ⟨w3, hw3⟩ : ∃ w3, put5 w2 w.heap.size (.bool leaf) (.string lo) (.string hi) (.int .i64 r) (.slice p2 len c2) = w3 := ⟨_, rfl⟩
    have ht3 : Tn [w.heap.size] w2 w3 := by rw [← hw3]; exact (Tn.refl _ _).five (.inl (by simp)) _ _ _ _ _
    have HK3 : Hid (Bk w3 w.heap.size 29 #[.bool leaf, .string lo, .string hi, .int .i64 r, .slice p2 len c2]) := by rw [← hw3]; exact Bk.five HK2.out _ _ _ _ _
    have HE3 : Hid (Bk w3 (w.heap.size + 1) 33 #[.string e.key, .int .i64 e.s, .int .i64 e.g, .int .i64 e.c]) := HE2.out.tn ht3 (by simp)
    have HR3 : Hid (Bk w3 (w.heap.size + 1 + 1) 29 zc) := HR2.out.tn ht3 (by simp; try omega)
    have HB3 : Hid (Below w.heap.size w w3) := HB2.out.trans (ht3.below HB2.out.size (by simp))
    have HO3 : Hid (OwnE w3 w1.heap.size (.slice p2 len c2) l) := ho2.tn ht3 (by have := HLT.out; intro x hx; simp at hx; omega)
    have HSZ3 : Hid (w1.heap.size ≤ w3.heap.size) := Nat.le_trans hb2.size ht3.size
    clear ho2 hb2 ht3 a0 a1 a2 a3 a4
    unfold put5 at hw3
    have a0 : w2.cell? ⟨w.heap.size, 0, none⟩ = some (.bool leaf) := HK2.out.cell 0
    have f0 : w2.frozen? ⟨w.heap.size, 0, none⟩ = false := HK2.out.frozen 0
    have a1 : w2.cell? ⟨w.heap.size, 1, none⟩ = some (.string lo) := HK2.out.cell 1
    have f1 : w2.frozen? ⟨w.heap.size, 1, none⟩ = false := HK2.out.frozen 1
    have a2 : w2.cell? ⟨w.heap.size, 2, none⟩ = some (.string hi) := HK2.out.cell 2
    have f2 : w2.frozen? ⟨w.heap.size, 2, none⟩ = false := HK2.out.frozen 2
    have a3 : w2.cell? ⟨w.heap.size, 3, none⟩ = some (.int .i64 r) := HK2.out.cell 3
    have f3 : w2.frozen? ⟨w.heap.size, 3, none⟩ = false := HK2.out.frozen 3
    have a4 : w2.cell? ⟨w.heap.size, 4, none⟩ = some (.slice p len cap) := HK2.out.cell 4
    have f4 : w2.frozen? ⟨w.heap.size, 4, none⟩ = false := HK2.out.frozen 4
    have x4 : w3.cell? ⟨w.heap.size, 4, none⟩ = some (.slice p2 len c2) := HK3.out.cell 4
    have y0 : w3.cell? ⟨w.heap.size + 1, 0, none⟩ = some (.string e.key) := HE3.out.cell 0
    go_wp2_with fail
    try rw [hw3]
    clear hw3 a0 a1 a2 a3 a4 f0 f1 f2 f3 f4 x4 y0
    have HX3 : Hid (Ens w3 p2 l) := HO3.out.seg.ens
    refine (withKey_any p2 len c2 l e.key _ HL.out HX3.out (by omega)).mono ?_
    rintro x w4 ⟨k, rfl, hk, hb4⟩
    have HB4 : Hid (Below w.heap.size w w4) := HB3.out.trans (hb4.mono HB3.out.size)
    have HK4 : Hid (Bk w4 w.heap.size 29 #[.bool leaf, .string lo, .string hi, .int .i64 r, .slice p2 len c2]) := HK3.out.below hb4 HK3.out.lt
    have HE4 : Hid (Bk w4 (w.heap.size + 1) 33 #[.string e.key, .int .i64 e.s, .int .i64 e.g, .int .i64 e.c]) := HE3.out.below hb4 HE3.out.lt
    have HR4 : Hid (Bk w4 (w.heap.size + 1 + 1) 29 zc) := HR3.out.below hb4 HR3.out.lt
    have HO4 : Hid (OwnE w4 w1.heap.size (.slice p2 len c2) l) := HO3.out.below hb4 (Nat.le_refl _)
    have HSZ4 : Hid (w1.heap.size ≤ w4.heap.size) := Nat.le_trans HSZ3.out hb4.size
    have x4 : w4.cell? ⟨w.heap.size, 4, none⟩ = some (.slice p2 len c2) := HK4.out.cell 4
    have y0 : w4.cell? ⟨w.heap.size + 1, 0, none⟩ = some (.string e.key) := HE4.out.cell 0
    have y1 : w4.cell? ⟨w.heap.size + 1, 1, none⟩ = some (.int .i64 e.s) := HE4.out.cell 1
    have y2 : w4.cell? ⟨w.heap.size + 1, 2, none⟩ = some (.int .i64 e.g) := HE4.out.cell 2
    have y3 : w4.cell? ⟨w.heap.size + 1, 3, none⟩ = some (.int .i64 e.c) := HE4.out.cell 3
    cases hv : l.any (Pg.is e.key) with
    | true =>
      have hlt : l.findIdx (Pg.is e.key) < l.length := List.findIdx_lt_length_of_exists (by obtain ⟨x, h1, h2⟩ := List.any_eq_true.1 hv; exact ⟨x, h1, h2⟩)
      have hk2 := hk hv
      subst hk2
      have HQ : Hid (out = (⟨leaf, lo, hi, r, l.set (l.findIdx (Pg.is e.key)) e⟩, 0)) := by rw [Hid, HQ0.out]; unfold Pg.putL; rw [hv]; rfl
      obtain ⟨i, hi2⟩ : ∃ i, l.findIdx (Pg.is e.key) = i := ⟨_, rfl⟩
      rw [hi2] at HQ hlt ⊢
      rw [HL.out] at hlt
      obtain ⟨g, rfl, hbg, cur, hgk, hsz⟩ : ∃ g, p2 = some ⟨g, 0, none⟩ ∧ w1.heap.size ≤ g ∧ ∃ cur, Bk w4 g 33 cur ∧ len * 4 ≤ cur.size := by
        rcases HO4.out.2 with ⟨hv0, hn0⟩ | ⟨g, cp, cur, hvv, hbg, hgk, hnc2, hcm, hcur, htake⟩
        · rw [HL.out] at hn0; omega
        · rw [HL.out] at hvv hnc2; cases hvv; exact ⟨g, rfl, hbg, cur, hgk, by rw [hcur]; omega⟩
      have hki : (i : Int) < (len : Int) := by omega
      have hk0 : (0 : Int) ≤ (i : Int) := by omega
      obtain ⟨t0, z0⟩ : ∃ t, w4.cell? ⟨g, i * 4, none⟩ = some t := ⟨_, (hgk.cell _).trans (Array.getElem?_eq_getElem (by omega))⟩
      obtain ⟨t1, z1⟩ : ∃ t, w4.cell? ⟨g, i * 4 + 1, none⟩ = some t := ⟨_, (hgk.cell _).trans (Array.getElem?_eq_getElem (by omega))⟩
      obtain ⟨t2, z2⟩ : ∃ t, w4.cell? ⟨g, i * 4 + 2, none⟩ = some t := ⟨_, (hgk.cell _).trans (Array.getElem?_eq_getElem (by omega))⟩
      obtain ⟨t3, z3⟩ : ∃ t, w4.cell? ⟨g, i * 4 + 3, none⟩ = some t := ⟨_, (hgk.cell _).trans (Array.getElem?_eq_getElem (by omega))⟩
      have u0 := hgk.frozen (i * 4)
      have u1 := hgk.frozen (i * 4 + 1)
      have u2 := hgk.frozen (i * 4 + 2)
      have u3 := hgk.frozen (i * 4 + 3)
      obtain ⟨w5, hw5⟩ : ∃ w5, put4i w4 g (i * 4) (.string e.key) (.int .i64 e.s) (.int .i64 e.g) (.int .i64 e.c) = w5 := ⟨_, rfl⟩
      have ht5 : Tn [g] w4 w5 := by rw [← hw5]; exact (Tn.refl _ _).four4 (.inl (by simp)) _ _ _ _ _
      have hlw := HLT.out
      have HK5 : Hid (Bk w5 w.heap.size 29 #[.bool leaf, .string lo, .string hi, .int .i64 r, .slice (some ⟨g, 0, none⟩) len c2]) := HK4.out.tn ht5 (by simp; omega)
      have HR5 : Hid (Bk w5 (w.heap.size + 1 + 1) 29 zc) := HR4.out.tn ht5 (by simp; omega)
      have HB5 : Hid (Below w.heap.size w w5) := HB4.out.trans (ht5.below HB4.out.size (by simp; omega))
      have HS5 : Hid (Seg w5 w1.heap.size (some ⟨g, 0, none⟩) len c2 (l.set i e)) := by rw [← hw5]; exact (HO4.out.over HL.out hlt e).seg
      unfold put4i at hw5
      have a0 : w5.cell? ⟨w.heap.size, 0, none⟩ = some (.bool leaf) := HK5.out.cell 0
      have a1 : w5.cell? ⟨w.heap.size, 1, none⟩ = some (.string lo) := HK5.out.cell 1
      have a2 : w5.cell? ⟨w.heap.size, 2, none⟩ = some (.string hi) := HK5.out.cell 2
      have a3 : w5.cell? ⟨w.heap.size, 3, none⟩ = some (.int .i64 r) := HK5.out.cell 3
      have a4 : w5.cell? ⟨w.heap.size, 4, none⟩ = some (.slice (some ⟨g, 0, none⟩) len c2) := HK5.out.cell 4
      have b0 : w5.cell? ⟨w.heap.size + 1 + 1, 0, none⟩ = some (.bool false) := HR5.out.cell 0
      have f0 : w5.frozen? ⟨w.heap.size + 1 + 1, 0, none⟩ = false := HR5.out.frozen 0
      have b1 : w5.cell? ⟨w.heap.size + 1 + 1, 1, none⟩ = some (.string ⟨#[]⟩) := HR5.out.cell 1
      have f1 : w5.frozen? ⟨w.heap.size + 1 + 1, 1, none⟩ = false := HR5.out.frozen 1
      have b2 : w5.cell? ⟨w.heap.size + 1 + 1, 2, none⟩ = some (.string ⟨#[]⟩) := HR5.out.cell 2
      have f2 : w5.frozen? ⟨w.heap.size + 1 + 1, 2, none⟩ = false := HR5.out.frozen 2
      have b3 : w5.cell? ⟨w.heap.size + 1 + 1, 3, none⟩ = some (.int .i64 0) := HR5.out.cell 3
      have f3 : w5.frozen? ⟨w.heap.size + 1 + 1, 3, none⟩ = false := HR5.out.frozen 3
      have b4 : w5.cell? ⟨w.heap.size + 1 + 1, 4, none⟩ = some (.slice none 0 0) := HR5.out.cell 4
      have f4 : w5.frozen? ⟨w.heap.size + 1 + 1, 4, none⟩ = false := HR5.out.frozen 4
      clear hk hb4 hv hi2 hgk hsz ht5 hbg hlw HQ0
      go_wp2
      try rw [hw5]
      clear hw5
      obtain ⟨we, hwe⟩ : ∃ we, we = put5 w5 (w.heap.size + 1 + 1) (.bool leaf) (.string lo) (.string hi) (.int .i64 r) (.slice (some ⟨g, 0, none⟩) len c2) := ⟨_, rfl⟩
      have hA : Bk we (w.heap.size + 1 + 1) 29 #[.bool leaf, .string lo, .string hi, .int .i64 r, .slice (some ⟨g, 0, none⟩) len c2] := by rw [hwe]; exact Bk.five HR5.out _ _ _ _ _
      have ht : Tn [w.heap.size + 1 + 1] w5 we := by rw [hwe]; exact (Tn.refl _ _).five (.inl (by simp)) _ _ _ _ _
      unfold put5 at hwe
      rw [← hwe]
      clear hwe
      refine bodyPost_ret (results_two (cs := [.bool leaf, .string lo, .string hi, .int .i64 r, .slice (some ⟨g, 0, none⟩) len c2]) rfl rfl pg_agg pg_size rfl hA) rfl ?_
      rw [HQ.out]
      have hsl := HS5.out.lenq
      have hltR := HLT.out
      refine ⟨_, rfl, ⟨(some ⟨g, 0, none⟩), c2, by simp only [hsl], ?_⟩, HB5.out.trans (ht.below HB5.out.size (by simp; try omega))⟩
      simp only [hsl]
      exact (HS5.out.tn ht (by intro x hx; simp at hx; omega)).mono HB1.out.size
    | false =>
      have HQ1 : Hid (out = (⟨leaf, lo, hi, r, Pg.ins l (l.findIdx fun x => Ky.lt e.key x.key) e⟩, 0)) := by rw [Hid, HQ0.out]; unfold Pg.putL; rw [hv]; rfl
      clear hk hb4 hv HQ0
      go_wp2_with fail
      refine (first_any 162 _ (fun k => Ky.lt e.key k) egp p2 len c2 l _ HL.out HO4.out.seg.ens (by omega) (put1_any e.key e w4 (w.heap.size + 1) HE4.out) (fun a b h1 h2 => Ky.lt_of_le' h1 h2)).mono ?_
      obtain ⟨j, hj⟩ : ∃ j, (l.findIdx fun x => Ky.lt e.key x.key) = j := ⟨_, rfl⟩
      have HJ : Hid (j ≤ len) := by rw [Hid, ← hj, ← HL.out]; exact List.findIdx_le_length
      rw [hj] at HQ1 ⊢
      have HQ : Hid (out = (⟨leaf, lo, hi, r, Pg.ins l j e⟩, 0)) := HQ1.out
      clear hj HQ1 x4 y0 y1 y2 y3
      rintro x w5 ⟨rfl, hb5⟩
      have HB5 : Hid (Below w.heap.size w w5) := HB4.out.trans (hb5.mono HB4.out.size)
      have HK5 : Hid (Bk w5 w.heap.size 29 #[.bool leaf, .string lo, .string hi, .int .i64 r, .slice p2 len c2]) := HK4.out.below hb5 HK4.out.lt
      have HE5 : Hid (Bk w5 (w.heap.size + 1) 33 #[.string e.key, .int .i64 e.s, .int .i64 e.g, .int .i64 e.c]) := HE4.out.below hb5 HE4.out.lt
      have HR5 : Hid (Bk w5 (w.heap.size + 1 + 1) 29 zc) := HR4.out.below hb5 HR4.out.lt
      have ho5 : OwnE w5 w1.heap.size (.slice p2 len c2) l := HO4.out.below hb5 (Nat.le_refl _)
      have hz5 : w1.heap.size ≤ w5.heap.size := Nat.le_trans HSZ4.out hb5.size
      obtain ⟨w6, hw6⟩ : ∃ w6, w5.alloc (.cells #[.string e.key, .int .i64 e.s, .int .i64 e.g, .int .i64 e.c] 33) = w6 := ⟨_, rfl⟩
      have hb6 : Below w5.heap.size w5 w6 := by rw [← hw6]; exact (Below.refl _ _).alloc (Nat.le_refl _) _
      have HV6 : Hid (Bk w6 w5.heap.size 33 #[.string e.key, .int .i64 e.s, .int .i64 e.g, .int .i64 e.c]) := by rw [← hw6]; exact Bk.new _ _ _
      have HK6 : Hid (Bk w6 w.heap.size 29 #[.bool leaf, .string lo, .string hi, .int .i64 r, .slice p2 len c2]) := HK5.out.below hb6 HK5.out.lt
      have HR6 : Hid (Bk w6 (w.heap.size + 1 + 1) 29 zc) := HR5.out.below hb6 HR5.out.lt
      have HB6 : Hid (Below w.heap.size w w6) := HB5.out.trans (hb6.mono HB5.out.size)
      have HO6 : Hid (OwnE w6 w1.heap.size (.slice p2 len c2) l) := ho5.below hb6 (Nat.le_refl _)
      have HNE : Hid ((Value.slice p2 len c2).ownBlock ≠ some w5.heap.size) := fun h => by have := (World.ownsRow.lt ho5 _ h).2; omega
      have HSZ6 : Hid (w1.heap.size ≤ w6.heap.size) := Nat.le_trans hz5 hb6.size
      have x4 : w5.cell? ⟨w.heap.size, 4, none⟩ = some (.slice p2 len c2) := HK5.out.cell 4
      have y0 : w5.cell? ⟨w.heap.size + 1, 0, none⟩ = some (.string e.key) := HE5.out.cell 0
      have y1 : w5.cell? ⟨w.heap.size + 1, 1, none⟩ = some (.int .i64 e.s) := HE5.out.cell 1
      have y2 : w5.cell? ⟨w.heap.size + 1, 2, none⟩ = some (.int .i64 e.g) := HE5.out.cell 2
      have y3 : w5.cell? ⟨w.heap.size + 1, 3, none⟩ = some (.int .i64 e.c) := HE5.out.cell 3
      clear hb5 hb6 ho5 hz5
      go_wp2_with fail
      clear hw6 x4 y0 y1 y2 y3
      refine (insert_any p2 len c2 l j e w5.heap.size w1.heap.size _ HL.out HO6.out HJ.out HSZ6.out HV6.out HNE.out (by omega)).mono ?_
      rintro x w7 ⟨v7, rfl, ho7, hg7⟩
      have hb7 : Below w1.heap.size w6 w7 := (Below.refl _ _).grown hg7 HSZ6.out (fun k hk => (World.ownsRow.lt HO6.out k hk).1)
      have HK7 : Hid (Bk w7 w.heap.size 29 #[.bool leaf, .string lo, .string hi, .int .i64 r, .slice p2 len c2]) := HK6.out.below hb7 (by have := HLT.out; omega)
      have HR7 : Hid (Bk w7 (w.heap.size + 1 + 1) 29 zc) := HR6.out.below hb7 HLT.out
      have HB7 : Hid (Below w.heap.size w w7) := HB6.out.trans (hb7.mono (by have := HLT.out; omega))
      obtain ⟨p7, c7, rfl, -, -⟩ := ho7.ens
      obtain ⟨n7, HN7⟩ : ∃ n7, Hid ((Pg.ins l j e).length = n7) := ⟨_, rfl⟩
      rw [HN7.out] at ho7 ⊢
      obtain ⟨w8, hw8⟩ : ∃ w8, w7.setCell ⟨w.heap.size, 4, none⟩ (.slice p7 n7 c7) = w8 := ⟨_, rfl⟩
      have ht8 : Tn [w.heap.size] w7 w8 := by rw [← hw8]; exact (Tn.refl _ _).setCell (.inl (by simp)) _
      have HK8 : Hid (Bk w8 w.heap.size 29 #[.bool leaf, .string lo, .string hi, .int .i64 r, .slice p7 n7 c7]) := by rw [← hw8]; exact (HK7.out.set 4 _)
      have HR8 : Hid (Bk w8 (w.heap.size + 1 + 1) 29 zc) := HR7.out.tn ht8 (by simp; try omega)
      have HB8 : Hid (Below w.heap.size w w8) := HB7.out.trans (ht8.below HB7.out.size (by simp))
      have HS8 : Hid (Seg w8 w1.heap.size p7 n7 c7 (Pg.ins l j e)) := ho7.seg.tn ht8 (by have := HLT.out; intro x hx; simp at hx; omega)
      have k4 : w7.cell? ⟨w.heap.size, 4, none⟩ = some (.slice p2 len c2) := HK7.out.cell 4
      have h4 : w7.frozen? ⟨w.heap.size, 4, none⟩ = false := HK7.out.frozen 4
      clear ho7 hg7 hb7 ht8
      have a0 : w8.cell? ⟨w.heap.size, 0, none⟩ = some (.bool leaf) := HK8.out.cell 0
      have a1 : w8.cell? ⟨w.heap.size, 1, none⟩ = some (.string lo) := HK8.out.cell 1
      have a2 : w8.cell? ⟨w.heap.size, 2, none⟩ = some (.string hi) := HK8.out.cell 2
      have a3 : w8.cell? ⟨w.heap.size, 3, none⟩ = some (.int .i64 r) := HK8.out.cell 3
      have a4 : w8.cell? ⟨w.heap.size, 4, none⟩ = some (.slice p7 n7 c7) := HK8.out.cell 4
      have b0 : w8.cell? ⟨w.heap.size + 1 + 1, 0, none⟩ = some (.bool false) := HR8.out.cell 0
      have f0 : w8.frozen? ⟨w.heap.size + 1 + 1, 0, none⟩ = false := HR8.out.frozen 0
      have b1 : w8.cell? ⟨w.heap.size + 1 + 1, 1, none⟩ = some (.string ⟨#[]⟩) := HR8.out.cell 1
      have f1 : w8.frozen? ⟨w.heap.size + 1 + 1, 1, none⟩ = false := HR8.out.frozen 1
      have b2 : w8.cell? ⟨w.heap.size + 1 + 1, 2, none⟩ = some (.string ⟨#[]⟩) := HR8.out.cell 2
      have f2 : w8.frozen? ⟨w.heap.size + 1 + 1, 2, none⟩ = false := HR8.out.frozen 2
      have b3 : w8.cell? ⟨w.heap.size + 1 + 1, 3, none⟩ = some (.int .i64 0) := HR8.out.cell 3
      have f3 : w8.frozen? ⟨w.heap.size + 1 + 1, 3, none⟩ = false := HR8.out.frozen 3
      have b4 : w8.cell? ⟨w.heap.size + 1 + 1, 4, none⟩ = some (.slice none 0 0) := HR8.out.cell 4
      have f4 : w8.frozen? ⟨w.heap.size + 1 + 1, 4, none⟩ = false := HR8.out.frozen 4
      go_wp2
      try rw [hw8]
      clear hw8
      obtain ⟨we, hwe⟩ : ∃ we, we = put5 w8 (w.heap.size + 1 + 1) (.bool leaf) (.string lo) (.string hi) (.int .i64 r) (.slice p7 n7 c7) := ⟨_, rfl⟩
      have hA : Bk we (w.heap.size + 1 + 1) 29 #[.bool leaf, .string lo, .string hi, .int .i64 r, .slice p7 n7 c7] := by rw [hwe]; exact Bk.five HR8.out _ _ _ _ _
      have ht : Tn [w.heap.size + 1 + 1] w8 we := by rw [hwe]; exact (Tn.refl _ _).five (.inl (by simp)) _ _ _ _ _
      unfold put5 at hwe
      rw [← hwe]
      clear hwe
      refine bodyPost_ret (results_two (cs := [.bool leaf, .string lo, .string hi, .int .i64 r, .slice p7 n7 c7]) rfl rfl pg_agg pg_size rfl hA) rfl ?_
      rw [HQ.out]
      have hsl := HS8.out.lenq
      have hltR := HLT.out
      refine ⟨_, rfl, ⟨p7, c7, by simp only [hsl], ?_⟩, HB8.out.trans (ht.below HB8.out.size (by simp; try omega))⟩
      simp only [hsl]
      exact (HS8.out.tn ht (by intro x hx; simp at hx; omega)).mono HB1.out.size

end Go.Proofs.YtoehlgigidgfpaaGreat
