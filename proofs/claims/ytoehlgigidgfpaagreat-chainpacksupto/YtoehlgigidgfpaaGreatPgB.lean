/- Copies of entries and of pages; a page's halves (the code's). -/
import Derived.Test.YtoehlgigidgfpaaGreatPgC
import Derived.Maps.AppendAt
import Derived.Lib.QuietBelow
namespace Go.Proofs.YtoehlgigidgfpaaGreat
open Go.RowKit Go.Sort
set_option linter.unusedVariables false
set_option maxRecDepth 100000

/-- A part of a row of entries of the call's own. -/
structure Seg (w : World) (base : Nat) (p : Option Addr) (len cap : Nat) (l : List En) : Prop where
  lenq : l.length = len
  le : len ≤ cap
  form : (p = none ∧ len = 0 ∧ cap = 0) ∨ ∃ g o cur, p = some ⟨g, o, none⟩ ∧ base ≤ g ∧ Bk w g 33 cur ∧ o + cap * 4 ≤ cur.size ∧ ∀ j u, (flatE l)[j]? = some u → cur[o + j]? = some u

theorem OwnE.seg {w : World} {base : Nat} {p : Option Addr} {len cap : Nat} {l : List En} (h : OwnE w base (.slice p len cap) l) : Seg w base p len cap l := by
  rcases h.2 with ⟨hv, hn⟩ | ⟨g, c, cur, hv, hb, hg, hle, hcm, hcur, htake⟩
  · cases hv
    exact ⟨hn, Nat.le_refl _, .inl ⟨rfl, rfl, rfl⟩⟩
  · cases hv
    refine ⟨rfl, hle, .inr ⟨g, 0, cur, rfl, hb, hg, by omega, fun j u hj => ?_⟩⟩
    rw [← htake, List.getElem?_take] at hj
    split at hj
    · rw [Nat.zero_add]; simpa using hj
    · cases hj

section
variable {w w' : World} {base : Nat} {p : Option Addr} {len cap : Nat} {l : List En}

theorem Seg.nil (w : World) (base : Nat) : Seg w base none 0 0 [] := ⟨rfl, Nat.le_refl _, .inl ⟨rfl, rfl, rfl⟩⟩

theorem Seg.keep (h : Seg w base p len cap l) (hk : ∀ g o, p = some ⟨g, o, none⟩ → w'.heap[g]? = w.heap[g]?) : Seg w' base p len cap l := by
  refine ⟨h.lenq, h.le, ?_⟩
  rcases h.form with hn | ⟨g, o, cur, hp, hb, hg, rest⟩
  · exact .inl hn
  · exact .inr ⟨g, o, cur, hp, hb, (hk g o hp).trans hg, rest⟩

theorem Seg.lt (h : Seg w base p len cap l) {g o : Nat} (hp : p = some ⟨g, o, none⟩) : base ≤ g ∧ g < w.heap.size := by
  rcases h.form with ⟨hn, _⟩ | ⟨g', o', cur, hp', hb, hg, rest⟩
  · rw [hn] at hp; cases hp
  · rw [hp'] at hp; cases hp
    exact ⟨hb, hg.lt⟩

theorem Seg.below (h : Seg w base p len cap l) {B : Nat} (hb : Below B w w') (hB : w.heap.size ≤ B) : Seg w' base p len cap l :=
  h.keep fun g o hp => hb.block g (Nat.lt_of_lt_of_le (h.lt hp).2 hB)

theorem Seg.tn {S : List Nat} (h : Seg w base p len cap l) (hb : Tn S w w') (hS : ∀ x ∈ S, x < base) : Seg w' base p len cap l :=
  h.keep fun g o hp => hb.block g (h.lt hp).2 (fun hm => by have := hS g hm; have := (h.lt hp).1; omega)

theorem Seg.mono {base' : Nat} (h : Seg w base p len cap l) (hb : base' ≤ base) : Seg w base' p len cap l := by
  refine ⟨h.lenq, h.le, ?_⟩
  rcases h.form with hn | ⟨g, o, cur, hp, hbb, rest⟩
  · exact .inl hn
  · exact .inr ⟨g, o, cur, hp, Nat.le_trans hb hbb, rest⟩

theorem Seg.none (h : Seg w base p len cap l) (hp : p = .none) : len = 0 := by
  rcases h.form with ⟨_, h0, _⟩ | ⟨g, o, cur, hp', _⟩
  · exact h0
  · rw [hp'] at hp; cases hp

theorem Seg.ens (h : Seg w base p len cap l) : Ens w p l := by
  intro hl
  rcases h.form with ⟨_, h0, _⟩ | ⟨g, o, cur, hp, hb, hg, hs, hc⟩
  · have := h.lenq; omega
  · refine ⟨g, o, hp, fun i e hi => ?_⟩
    obtain ⟨a0, a1, a2, a3⟩ := flatE_at l i e hi
    refine ⟨(hg.cell _).trans (hc _ _ a0), ?_, ?_, ?_⟩
    · rw [show o + i * 4 + 1 = o + (i * 4 + 1) by omega]; exact (hg.cell _).trans (hc _ _ a1)
    · rw [show o + i * 4 + 2 = o + (i * 4 + 2) by omega]; exact (hg.cell _).trans (hc _ _ a2)
    · rw [show o + i * 4 + 3 = o + (i * 4 + 3) by omega]; exact (hg.cell _).trans (hc _ _ a3)

theorem flatE_split (l : List En) (n : Nat) : flatE l = flatE (l.take n) ++ flatE (l.drop n) := by
  rw [← flatE_append, List.take_append_drop]

theorem Seg.take {g o : Nat} (h : Seg w base (some ⟨g, o, .none⟩) len cap l) (n c : Nat) (hn : n ≤ len) (hc : n ≤ c) (hc2 : c ≤ cap) : Seg w base (some ⟨g, o, .none⟩) n c (l.take n) := by
  rcases h.form with ⟨hh, _⟩ | ⟨g', o', cur, hp, hb, hg, hs, hcc⟩
  · cases hh
  · cases hp
    refine ⟨by rw [List.length_take, h.lenq]; omega, hc, .inr ⟨g, o, cur, rfl, hb, hg, by omega, fun j u hj => hcc j u ?_⟩⟩
    rw [flatE_split l n]
    exact List.getElem?_append_left (List.getElem?_eq_some_iff.1 hj).1 |>.trans hj

theorem Seg.drop {g o : Nat} (h : Seg w base (some ⟨g, o, .none⟩) len cap l) (n : Nat) (hn : n ≤ len) : Seg w base (some ⟨g, o + n * 4, .none⟩) (len - n) (cap - n) (l.drop n) := by
  have hle := h.le
  rcases h.form with ⟨hh, _⟩ | ⟨g', o', cur, hp, hb, hg, hs, hcc⟩
  · cases hh
  · cases hp
    refine ⟨by rw [List.length_drop, h.lenq], by omega, .inr ⟨g, o + n * 4, cur, rfl, hb, hg, by omega, fun j u hj => ?_⟩⟩
    have hl : (flatE (l.take n)).length = n * 4 := by rw [flatE_len, List.length_take, h.lenq, Nat.min_eq_left hn]
    have := hcc (n * 4 + j) u (by
      rw [flatE_split l n, List.getElem?_append_right (by omega), hl, show n * 4 + j - n * 4 = j by omega]
      exact hj)
    rw [show o + n * 4 + j = o + (n * 4 + j) by omega]
    exact this
end

theorem OwnE.tn {w w' : World} {base : Nat} {v : Value} {l : List En} {S : List Nat} (h : OwnE w base v l) (hb : Tn S w w') (hS : ∀ x ∈ S, x < base) : OwnE w' base v l := by
  refine ⟨h.1, ?_⟩
  rcases h.2 with hn | ⟨g, cap, cur, hv, hbb, hg, rest⟩
  · exact .inl hn
  · refine .inr ⟨g, cap, cur, hv, hbb, ?_, rest⟩
    rw [hb.block g (Array.getElem?_eq_some_iff.1 hg).1 (fun hm => by have := hS g hm; omega)]
    exact hg

/-- Five cells of a block written. -/
abbrev put5 (w : World) (R : Nat) (a b c d e : Value) : World := ((((w.setCell ⟨R, 0, none⟩ a).setCell ⟨R, 1, none⟩ b).setCell ⟨R, 2, none⟩ c).setCell ⟨R, 3, none⟩ d).setCell ⟨R, 4, none⟩ e

theorem Bk.five {w : World} {R : Nat} {T : TypeId} {x0 x1 x2 x3 x4 : Value} (h : Bk w R T #[x0, x1, x2, x3, x4]) (a b c d e : Value) : Bk (put5 w R a b c d e) R T #[a, b, c, d, e] := by
  have := ((((h.set 0 a).set 1 b).set 2 c).set 3 d).set 4 e
  simpa using this

theorem Bk.fiveO {w : World} {R k : Nat} {T : TypeId} {cs : Array Value} (h : Bk w k T cs) (hne : k ≠ R) (a b c d e : Value) : Bk (put5 w R a b c d e) k T cs :=
  ((((h.other (p := ⟨R, 0, none⟩) hne a).other (p := ⟨R, 1, none⟩) hne b).other (p := ⟨R, 2, none⟩) hne c).other (p := ⟨R, 3, none⟩) hne d).other (p := ⟨R, 4, none⟩) hne e

theorem Tn.five {S : List Nat} {a0 w : World} (h : Tn S a0 w) {R : Nat} (hp : R ∈ S ∨ a0.heap.size ≤ R) (a b c d e : Value) : Tn S a0 (put5 w R a b c d e) :=
  ((((h.setCell (p := ⟨R, 0, none⟩) hp a).setCell (p := ⟨R, 1, none⟩) hp b).setCell (p := ⟨R, 2, none⟩) hp c).setCell (p := ⟨R, 3, none⟩) hp d).setCell (p := ⟨R, 4, none⟩) hp e

/-- A page's value that leads to entries in memory of the call's own. -/
structure NewP (w : World) (base : Nat) (v : Value) (leaf : Bool) (lo hi : ByteArray) (r : Int) (l : List En) : Prop where
  form : ∃ p cap, v = pgv leaf lo hi r p l.length cap ∧ Seg w base p l.length cap l

set_option maxHeartbeats 1000000 in
/-- slices.Clone. -/
theorem eclone_any (p : Option Addr) (len cap : Nat) (l : List En) (w : World) (hlen : l.length = len) (hx : Ens w p l) (hl : len ≤ 3518437208782) (hp : p = none → len = 0) :
    Calls Tryz.prog 87 #[.slice p len cap] w fun e w' => ∃ v, e = .returned v ∧ OwnE w' w.heap.size v l ∧ Below w.heap.size w w' := by
  have qnil : ∀ (w : World) (a : Option Addr) (n c n' c' : Nat), (binOp .eql 27 (.slice a n c) (.slice none n' c')).run Tryz.prog w = .ok (.bool a.isNone) w := fun w a n c n' c' => Lib.run_eql_slice_nil w _ _ a n c n' c' Tryz.underlying27
  obtain ⟨i0, hi, hz0, hz1, hz2⟩ := en_info
  have HX : Hid (Ens w p l) := hx
  have HL : Hid (l.length = len) := hlen
  clear hx hlen
  cases p with
  | none =>
    have hl0 := hp rfl
    go_enter Tryz.func87, Tryz.ntmps87
    go_wp2
    go_ret
    have e : l = [] := List.eq_nil_of_length_eq_zero (by have := HL.out; omega)
    subst e
    exact ⟨_, rfl, ⟨rfl, .inl ⟨rfl, rfl⟩⟩, Below.refl _ _⟩
  | some ad =>
    clear hp
    go_enter Tryz.func87, Tryz.ntmps87
    go_wp2_with (at_builtin; refine wpList_append_own _ rfl _ _ 27 rfl w.heap.size 33 i0 _ 4 40 Tryz.underlying27 hi hz0 hz1 hz2 rfl (by decide) _ _ _ rfl (World.ownsRow_made w #[] 0 (Nat.le_refl _) (Nat.zero_le _) (by simp)) ad len cap (flatE l) rfl ?qc1 ?qc2 ?qc3 ?qc4 ?qc5 ?qc6 ?_)
    case qc1 => rw [flatE_len, HL.out]
    case qc2 =>
      intro j u hj
      have hb0 : Below w.heap.size w (w.alloc (.cells #[] 33)) := (Below.refl _ _).alloc (Nat.le_refl _) _
      exact (HX.out.below hb0 (Nat.le_refl _)).news ad rfl j u hj
    case qc3 => exact flatE_one l
    case qc4 => unfold maxLen; omega
    case qc5 => omega
    case qc6 => simp
    intro v' w1 hown hgrow hnil
    go_wp2
    go_ret
    refine ⟨v', rfl, ?_, ?_⟩
    · unfold OwnE
      rw [HL.out]
      simpa using hown
    · exact ((Below.refl _ w).alloc (Nat.le_refl _) _).grown hgrow (by simp) (by intro k hk; simp [Value.ownBlock] at hk; omega)

set_option maxHeartbeats 1000000 in
theorem pclone_any (leaf : Bool) (lo hi : ByteArray) (r : Int) (p : Option Addr) (len cap : Nat) (l : List En) (w : World) (hlen : l.length = len) (hx : Ens w p l) (hl : len ≤ 3518437208782) (hp : p = none → len = 0) :
    Calls Tryz.prog 51 #[pgv leaf lo hi r p len cap] w fun e w' => ∃ p' cap', e = .returned (pgv leaf lo hi r p' len cap') ∧ OwnE w' w.heap.size (.slice p' len cap') l ∧ Below w.heap.size w w' := by
  obtain ⟨w0, hw0⟩ : ∃ w0, w0 = (w.alloc (.cells (pgc leaf lo hi r p len cap) 29)).alloc (.cells #[.bool false, .string ⟨#[]⟩, .string ⟨#[]⟩, .int .i64 0, .slice none 0 0] 29) := ⟨_, rfl⟩
  have HB0 : Hid (Below w.heap.size w w0) := by rw [hw0]; exact ((Below.refl _ _).alloc (Nat.le_refl _) _).alloc (by simp) _
  have HK0 : Hid (Bk w0 w.heap.size 29 (pgc leaf lo hi r p len cap)) := by rw [hw0]; exact (Bk.new _ _ _).alloc _
  have HR0 : Hid (Bk w0 (w.heap.size + 1) 29 #[.bool false, .string ⟨#[]⟩, .string ⟨#[]⟩, .int .i64 0, .slice none 0 0]) := by rw [hw0]; exact Bk.new1 _ _ _ _
  have HX : Hid (Ens w p l) := hx
  have HL : Hid (l.length = len) := hlen
  clear hx hlen
  go_enter Tryz.func51, Tryz.ntmps51
  go_wp2_with fail
  rw [← hw0]
  clear hw0
  refine (eclone_any p len cap l _ HL.out (HX.out.below HB0.out (Nat.le_refl _)) hl hp).mono ?_
  rintro e w1 ⟨v, rfl, ho, hb⟩
  obtain ⟨q, c, rfl, -, -⟩ := ho.ens
  have HO : Hid (OwnE w1 w0.heap.size (.slice q l.length c) l) := ho
  have HB1 : Hid (Below w.heap.size w w1) := HB0.out.trans (hb.mono HB0.out.size)
  have hk1 := HK0.out.below hb HK0.out.lt
  have hr1 := HR0.out.below hb HR0.out.lt
  have HK1 : Hid (Bk w1 w.heap.size 29 (pgc leaf lo hi r p len cap)) := hk1
  have HR1 : Hid (Bk w1 (w.heap.size + 1) 29 #[.bool false, .string ⟨#[]⟩, .string ⟨#[]⟩, .int .i64 0, .slice none 0 0]) := hr1
  have HS0 : Hid (w.heap.size + 1 < w0.heap.size) := HR0.out.lt
  rw [HL.out] at HO ⊢
  clear ho hb hk1 hr1
  have a0 : w1.cell? ⟨w.heap.size, 0, none⟩ = some (.bool leaf) := HK1.out.cell 0
  have a1 : w1.cell? ⟨w.heap.size, 1, none⟩ = some (.string lo) := HK1.out.cell 1
  have a2 : w1.cell? ⟨w.heap.size, 2, none⟩ = some (.string hi) := HK1.out.cell 2
  have a3 : w1.cell? ⟨w.heap.size, 3, none⟩ = some (.int .i64 r) := HK1.out.cell 3
  have a4 : w1.cell? ⟨w.heap.size, 4, none⟩ = some (.slice p len cap) := HK1.out.cell 4
  have f4 : w1.frozen? ⟨w.heap.size, 4, none⟩ = false := HK1.out.frozen 4
  have b0 : w1.cell? ⟨w.heap.size + 1, 0, none⟩ = some (.bool false) := HR1.out.cell 0
  have b1 : w1.cell? ⟨w.heap.size + 1, 1, none⟩ = some (.string ⟨#[]⟩) := HR1.out.cell 1
  have b2 : w1.cell? ⟨w.heap.size + 1, 2, none⟩ = some (.string ⟨#[]⟩) := HR1.out.cell 2
  have b3 : w1.cell? ⟨w.heap.size + 1, 3, none⟩ = some (.int .i64 0) := HR1.out.cell 3
  have b4 : w1.cell? ⟨w.heap.size + 1, 4, none⟩ = some (.slice none 0 0) := HR1.out.cell 4
  have g0 : w1.frozen? ⟨w.heap.size + 1, 0, none⟩ = false := HR1.out.frozen 0
  have g1 : w1.frozen? ⟨w.heap.size + 1, 1, none⟩ = false := HR1.out.frozen 1
  have g2 : w1.frozen? ⟨w.heap.size + 1, 2, none⟩ = false := HR1.out.frozen 2
  have g3 : w1.frozen? ⟨w.heap.size + 1, 3, none⟩ = false := HR1.out.frozen 3
  have g4 : w1.frozen? ⟨w.heap.size + 1, 4, none⟩ = false := HR1.out.frozen 4
  go_wp2
  refine bodyPost_ret (results_one (cs := [.bool leaf, .string lo, .string hi, .int .i64 r, .slice q len c]) rfl rfl pg_agg pg_size rfl (((HR1.out.other (p := ⟨w.heap.size, 4, none⟩) (by simp) _).five _ _ _ _ _))) rfl ?_
  have ht : Tn [w.heap.size, w.heap.size + 1] w1 (put5 (w1.setCell ⟨w.heap.size, 4, none⟩ (.slice q len c)) (w.heap.size + 1) (.bool leaf) (.string lo) (.string hi) (.int .i64 r) (.slice q len c)) :=
    ((Tn.refl _ _).setCell (p := ⟨w.heap.size, 4, none⟩) (.inl (by simp)) _).five (.inl (by simp)) _ _ _ _ _
  have hs0 := HS0.out
  refine ⟨q, c, rfl, (HO.out.tn ht (by simp; omega)).mono HB0.out.size, HB1.out.trans (ht.below HB1.out.size (by simp))⟩

end Go.Proofs.YtoehlgigidgfpaaGreat
