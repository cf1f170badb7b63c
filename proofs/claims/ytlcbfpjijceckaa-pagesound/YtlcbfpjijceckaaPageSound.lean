/- PageSound: of a page that may be, what is put, removed, split and merged may be; the halves, merged, are the page. -/
import Derived.Test.YtlcbfpjijceckaaPgSd
import Derived.Test.YtlcbfpjijceckaaPgSm
import Derived.Test.YtlcbfpjijceckaaPgMm
import Derived.Test.YtlcbfpjijceckaaPgLive
import Derived.Test.YtlcbfpjijceckaaPgOpen
namespace Go.Proofs.Ytlcbfpjijceckaa
open Go.ChangeShapes Go.WideShapes Go.ChangeAt Go.RowKit Go.Sort
open Go.ChangeMaps (open_string shut_string)
set_option linter.unusedVariables false
set_option maxRecDepth 100000

theorem PgAt.parts {w : World} {base : Nat} {v : Value} {g : Pp} (h : PgAt w base v g) : ∃ f lo hi r p n c l, g = ⟨f, lo, hi, r, l⟩ ∧ v = pgv f lo hi r p n c ∧ l.length = n ∧ Ens w p l ∧ (p = none → n = 0 ∧ c = 0) := by
  obtain ⟨p, c, hv, hs⟩ := h
  obtain ⟨f, lo, hi, r, l⟩ := g
  refine ⟨f, lo, hi, r, p, l.length, c, l, rfl, hv, rfl, hs.ens, fun e => ?_⟩
  rcases hs.form with ⟨_, h0, h1⟩ | ⟨g, o, cur, hp, _⟩
  · exact ⟨h0, h1⟩
  · rw [hp] at e; cases e

theorem Pg.putL_len (l : List En) (e : En) : (Pg.putL l e).length ≤ l.length + 1 := by
  unfold Pg.putL
  split
  · rw [List.length_set]; omega
  · rw [Pg.ins_len List.findIdx_le_length]; exact Nat.le_refl _

theorem Pg.del_le (l : List En) (i : Nat) : (Pg.del l i).length ≤ l.length := by
  unfold Pg.del; rw [List.length_append, List.length_take, List.length_drop]; omega

/-- The halves, where there are any. -/
theorem Pg.split_ok {g : Pp} {id : Int} (h : (Pg.split g id).2.2 = 0) : ∃ i m x y, i + 1 < g.l.length ∧ 1 ≤ id ∧ g.l[i]? = some x ∧ g.l[i + 1]? = some y ∧ Pg.part g.leaf x.key y.key = some m ∧ Pg.split g id = (⟨g.leaf, g.lo, m, id, g.l.take (i + 1)⟩, ⟨g.leaf, m, g.hi, g.r, g.l.drop (i + 1)⟩, 0) := by
  unfold Pg.split at h ⊢
  by_cases h1 : id < 1
  · rw [if_pos h1] at h; cases h
  · rw [if_neg h1] at h ⊢
    by_cases h2 : g.l.length < 2
    · rw [if_pos h2] at h; cases h
    · rw [if_neg h2] at h ⊢
      obtain ⟨i, hi⟩ : ∃ i, g.l.length / 2 = i + 1 := ⟨g.l.length / 2 - 1, by omega⟩
      have hx := List.getElem?_eq_getElem (l := g.l) (i := i) (by omega)
      have hy := List.getElem?_eq_getElem (l := g.l) (i := i + 1) (by omega)
      rw [hi, show i + 1 - 1 = i by omega, Pg.keyAt_some hx, Pg.keyAt_some hy] at h ⊢
      cases hp : Pg.part g.leaf (g.l[i]).key (g.l[i + 1]).key with
      | none => rw [hp] at h; cases h
      | some m => exact ⟨i, m, _, _, by omega, by omega, hx, hy, hp, rfl⟩

/-- No halves: there is no place for the page, or there are too few entries. -/
theorem Pg.split_no {g : Pp} {id : Int} (hr : Pg.Ris g.l) (h : (Pg.split g id).2.2 ≠ 0) : id < 1 ∨ g.l.length < 2 := by
  by_cases h1 : id < 1
  · exact .inl h1
  · by_cases h2 : g.l.length < 2
    · exact .inr h2
    · exfalso
      apply h
      unfold Pg.split
      rw [if_neg h1, if_neg h2]
      obtain ⟨i, hi⟩ : ∃ i, g.l.length / 2 = i + 1 := ⟨g.l.length / 2 - 1, by omega⟩
      have hx := List.getElem?_eq_getElem (l := g.l) (i := i) (by omega)
      have hy := List.getElem?_eq_getElem (l := g.l) (i := i + 1) (by omega)
      rw [hi, show i + 1 - 1 = i by omega, Pg.keyAt_some hx, Pg.keyAt_some hy]
      have hl := hr i _ _ hx hy
      unfold Pg.part
      cases g.leaf with
      | false => rfl
      | true => rw [hl]; rfl

theorem Pg.merge_back {f : Bool} {lo hi m : ByteArray} {r id : Int} {l : List En} {n : Nat} (hm : m ≠ .empty) : Pg.merge ⟨f, lo, m, id, l.take n⟩ ⟨f, m, hi, r, l.drop n⟩ = (⟨f, lo, hi, r, l⟩, 0) := by
  have hn : m.toList.isEmpty = false := by
    have := Ky.nil_eq m
    rw [decide_eq_false hm] at this
    exact this
  unfold Pg.merge Pg.joins
  rw [hn]
  simp

set_option maxHeartbeats 16000000 in
theorem walk_pageSound (pf : Bool) (plo phi : ByteArray) (pr : Int) (pp : Option Addr) (pn pc : Nat) (pl : List En) (e : En) (id : Int) (w : World) (hp : InE 3518437208780 w pp pn pc pl) (hid : (Lit.int .i64 id).wf = true) :
    Calls Try.prog 6 #[pgv pf plo phi pr pp pn pc, e.val, .int .i64 id] w fun x w' => x = .returned (.bool true) ∧ Below w.heap.size w w' := by
  have HP : Hid (InE 3518437208780 w pp pn pc pl) := hp
  have hpn : pn ≤ 3518437208780 := hp.room
  clear hp hid
  obtain ⟨ek, es, eg, ec⟩ := e
  cases hmay : Pg.may pf ⟨plo, phi⟩ pr pl with
  | false =>
    obtain ⟨w0, hw0⟩ : ∃ w0, (w.alloc (.cells #[.bool pf, .string plo, .string phi, .int .i64 pr, .slice pp pn pc] 24)).alloc (.cells #[.string ek, .int .i64 es, .int .i64 eg, .int .i64 ec] 28) = w0 := ⟨_, rfl⟩
    have HBW : Hid (Below w.heap.size w w0) := by rw [← hw0]; exact ((Below.refl _ _).alloc (Nat.le_refl _) _).alloc (by simp) _
    have HXp : Hid (Bk w0 (w.heap.size) 24 #[.bool pf, .string plo, .string phi, .int .i64 pr, .slice pp pn pc]) := by rw [← hw0]; exact (Bk.new _ _ _).alloc _
    have HXe : Hid (Bk w0 (w.heap.size + 1) 28 #[.string ek, .int .i64 es, .int .i64 eg, .int .i64 ec]) := by rw [← hw0]; exact Bk.new1 _ _ _ _
    have HEp : Hid (Ens w0 pp (pl)) := HP.out.ens.below HBW.out (Nat.le_refl _)
    have p_0 : w0.cell? ⟨w.heap.size, 0, none⟩ = some (.bool pf) := HXp.out.cell 0
    have p_1 : w0.cell? ⟨w.heap.size, 1, none⟩ = some (.string plo) := HXp.out.cell 1
    have p_2 : w0.cell? ⟨w.heap.size, 2, none⟩ = some (.string phi) := HXp.out.cell 2
    have p_3 : w0.cell? ⟨w.heap.size, 3, none⟩ = some (.int .i64 pr) := HXp.out.cell 3
    have p_4 : w0.cell? ⟨w.heap.size, 4, none⟩ = some (.slice pp pn pc) := HXp.out.cell 4
    go_enter Try.func6, Try.ntmps6
    go_wp2_with fail
    clear p_0 p_1 p_2 p_3 p_4 hw0
    refine (rcheck_any pf plo phi pr pp pn pc pl _ HP.out.lenq HEp.out (by omega)).mono ?_
    rw [hmay]
    simp only [Bool.false_eq_true, if_false]
    rintro x w1 ⟨rfl, hb⟩
    have HXp : Hid (Bk w1 (w.heap.size) 24 #[.bool pf, .string plo, .string phi, .int .i64 pr, .slice pp pn pc]) := HXp.out.below hb HXp.out.lt
    have HXe : Hid (Bk w1 (w.heap.size + 1) 28 #[.string ek, .int .i64 es, .int .i64 eg, .int .i64 ec]) := HXe.out.below hb HXe.out.lt
    have HEp : Hid (Ens w1 pp (pl)) := HEp.out.below hb (Nat.le_refl _)
    have HBW : Hid (Below w.heap.size w w1) := HBW.out.trans (hb.mono HBW.out.size)
    clear hb
    go_wp2_with fail
    refine (live_any _).mono ?_
    rintro x w2 ⟨rfl, hb⟩
    have HXp : Hid (Bk w2 (w.heap.size) 24 #[.bool pf, .string plo, .string phi, .int .i64 pr, .slice pp pn pc]) := HXp.out.below hb HXp.out.lt
    have HXe : Hid (Bk w2 (w.heap.size + 1) 28 #[.string ek, .int .i64 es, .int .i64 eg, .int .i64 ec]) := HXe.out.below hb HXe.out.lt
    have HEp : Hid (Ens w2 pp (pl)) := HEp.out.below hb (Nat.le_refl _)
    have HBW : Hid (Below w.heap.size w w2) := HBW.out.trans (hb.mono HBW.out.size)
    clear hb
    have p_0 : w2.cell? ⟨w.heap.size, 0, none⟩ = some (.bool pf) := HXp.out.cell 0
    have p_1 : w2.cell? ⟨w.heap.size, 1, none⟩ = some (.string plo) := HXp.out.cell 1
    have p_2 : w2.cell? ⟨w.heap.size, 2, none⟩ = some (.string phi) := HXp.out.cell 2
    have p_3 : w2.cell? ⟨w.heap.size, 3, none⟩ = some (.int .i64 pr) := HXp.out.cell 3
    have p_4 : w2.cell? ⟨w.heap.size, 4, none⟩ = some (.slice pp pn pc) := HXp.out.cell 4
    go_wp2_with fail
    clear p_0 p_1 p_2 p_3 p_4
    refine (check_any pf plo phi pr pp pn pc pl _ HP.out.lenq HEp.out (by omega)).mono ?_
    rw [hmay]
    simp only [Bool.false_eq_true, if_false]
    rintro x w3 ⟨rfl, hb⟩
    have HXp : Hid (Bk w3 (w.heap.size) 24 #[.bool pf, .string plo, .string phi, .int .i64 pr, .slice pp pn pc]) := HXp.out.below hb HXp.out.lt
    have HXe : Hid (Bk w3 (w.heap.size + 1) 28 #[.string ek, .int .i64 es, .int .i64 eg, .int .i64 ec]) := HXe.out.below hb HXe.out.lt
    have HEp : Hid (Ens w3 pp (pl)) := HEp.out.below hb (Nat.le_refl _)
    have HBW : Hid (Below w.heap.size w w3) := HBW.out.trans (hb.mono HBW.out.size)
    clear hb
    go_wp2
    go_ret
    exact ⟨rfl, HBW.out⟩
  | true =>
    have HMAY : Hid (Pg.may pf ⟨plo, phi⟩ pr pl = true) := hmay
    have HRS : Hid (Pg.Ris pl) := Pg.fits_ris (Pg.may_parts hmay).2.1
    cases pf with
    | true =>
      obtain ⟨w0, hw0⟩ : ∃ w0, (w.alloc (.cells #[.bool true, .string plo, .string phi, .int .i64 pr, .slice pp pn pc] 24)).alloc (.cells #[.string ek, .int .i64 es, .int .i64 eg, .int .i64 ec] 28) = w0 := ⟨_, rfl⟩
      have HBW : Hid (Below w.heap.size w w0) := by rw [← hw0]; exact ((Below.refl _ _).alloc (Nat.le_refl _) _).alloc (by simp) _
      have HXp : Hid (Bk w0 (w.heap.size) 24 #[.bool true, .string plo, .string phi, .int .i64 pr, .slice pp pn pc]) := by rw [← hw0]; exact (Bk.new _ _ _).alloc _
      have HXe : Hid (Bk w0 (w.heap.size + 1) 28 #[.string ek, .int .i64 es, .int .i64 eg, .int .i64 ec]) := by rw [← hw0]; exact Bk.new1 _ _ _ _
      have HEp : Hid (Ens w0 pp (pl)) := HP.out.ens.below HBW.out (Nat.le_refl _)
      have p_0 : w0.cell? ⟨w.heap.size, 0, none⟩ = some (.bool true) := HXp.out.cell 0
      have p_1 : w0.cell? ⟨w.heap.size, 1, none⟩ = some (.string plo) := HXp.out.cell 1
      have p_2 : w0.cell? ⟨w.heap.size, 2, none⟩ = some (.string phi) := HXp.out.cell 2
      have p_3 : w0.cell? ⟨w.heap.size, 3, none⟩ = some (.int .i64 pr) := HXp.out.cell 3
      have p_4 : w0.cell? ⟨w.heap.size, 4, none⟩ = some (.slice pp pn pc) := HXp.out.cell 4
      go_enter Try.func6, Try.ntmps6
      go_wp2_with fail
      clear p_0 p_1 p_2 p_3 p_4 hw0
      refine (rcheck_any true plo phi pr pp pn pc pl _ HP.out.lenq HEp.out (by omega)).mono ?_
      rw [hmay]
      simp only [if_true]
      rintro x w1 ⟨rfl, hb⟩
      have HXp : Hid (Bk w1 (w.heap.size) 24 #[.bool true, .string plo, .string phi, .int .i64 pr, .slice pp pn pc]) := HXp.out.below hb HXp.out.lt
      have HXe : Hid (Bk w1 (w.heap.size + 1) 28 #[.string ek, .int .i64 es, .int .i64 eg, .int .i64 ec]) := HXe.out.below hb HXe.out.lt
      have HEp : Hid (Ens w1 pp (pl)) := HEp.out.below hb (Nat.le_refl _)
      have HBW : Hid (Below w.heap.size w w1) := HBW.out.trans (hb.mono HBW.out.size)
      clear hb
      go_wp2_with fail
      refine (live_any _).mono ?_
      rintro x w2 ⟨rfl, hb⟩
      have HXp : Hid (Bk w2 (w.heap.size) 24 #[.bool true, .string plo, .string phi, .int .i64 pr, .slice pp pn pc]) := HXp.out.below hb HXp.out.lt
      have HXe : Hid (Bk w2 (w.heap.size + 1) 28 #[.string ek, .int .i64 es, .int .i64 eg, .int .i64 ec]) := HXe.out.below hb HXe.out.lt
      have HEp : Hid (Ens w2 pp (pl)) := HEp.out.below hb (Nat.le_refl _)
      have HBW : Hid (Below w.heap.size w w2) := HBW.out.trans (hb.mono HBW.out.size)
      clear hb
      have p_0 : w2.cell? ⟨w.heap.size, 0, none⟩ = some (.bool true) := HXp.out.cell 0
      have p_1 : w2.cell? ⟨w.heap.size, 1, none⟩ = some (.string plo) := HXp.out.cell 1
      have p_2 : w2.cell? ⟨w.heap.size, 2, none⟩ = some (.string phi) := HXp.out.cell 2
      have p_3 : w2.cell? ⟨w.heap.size, 3, none⟩ = some (.int .i64 pr) := HXp.out.cell 3
      have p_4 : w2.cell? ⟨w.heap.size, 4, none⟩ = some (.slice pp pn pc) := HXp.out.cell 4
      have e_0 : w2.cell? ⟨w.heap.size + 1, 0, none⟩ = some (.string ek) := HXe.out.cell 0
      have e_1 : w2.cell? ⟨w.heap.size + 1, 1, none⟩ = some (.int .i64 es) := HXe.out.cell 1
      have e_2 : w2.cell? ⟨w.heap.size + 1, 2, none⟩ = some (.int .i64 eg) := HXe.out.cell 2
      have e_3 : w2.cell? ⟨w.heap.size + 1, 3, none⟩ = some (.int .i64 ec) := HXe.out.cell 3
      have ef_0 : w2.frozen? ⟨w.heap.size + 1, 0, none⟩ = false := HXe.out.frozen 0
      have ef_1 : w2.frozen? ⟨w.heap.size + 1, 1, none⟩ = false := HXe.out.frozen 1
      have ef_2 : w2.frozen? ⟨w.heap.size + 1, 2, none⟩ = false := HXe.out.frozen 2
      have ef_3 : w2.frozen? ⟨w.heap.size + 1, 3, none⟩ = false := HXe.out.frozen 3
      obtain ⟨w3, hw3⟩ : ∃ w3, w2.setCell ⟨w.heap.size + 1, 3, none⟩ (.int .i64 0) = w3 := ⟨_, rfl⟩
      have ht : Tn [w.heap.size + 1] w2 w3 := by rw [← hw3]; exact ((Tn.refl _ _).setCell (p := ⟨w.heap.size + 1, 3, none⟩) (.inl (by simp)) _)
      have HXe : Hid (Bk w3 (w.heap.size + 1) 28 #[.string ek, .int .i64 es, .int .i64 eg, .int .i64 0]) := by rw [Hid, ← hw3]; have := (HXe.out.set 3 (.int .i64 0)); simpa using this
      have HXp : Hid (Bk w3 (w.heap.size) 24 #[.bool true, .string plo, .string phi, .int .i64 pr, .slice pp pn pc]) := HXp.out.tn ht (by simp)
      have HBW : Hid (Below w.heap.size w w3) := HBW.out.trans (ht.below HBW.out.size (by simp))
      have HEp : Hid (Ens w3 pp (pl)) := HP.out.ens.below HBW.out (Nat.le_refl _)
      clear ht
      have pp_0 : w3.cell? ⟨w.heap.size, 0, none⟩ = some (.bool true) := HXp.out.cell 0
      have pp_1 : w3.cell? ⟨w.heap.size, 1, none⟩ = some (.string plo) := HXp.out.cell 1
      have pp_2 : w3.cell? ⟨w.heap.size, 2, none⟩ = some (.string phi) := HXp.out.cell 2
      have pp_3 : w3.cell? ⟨w.heap.size, 3, none⟩ = some (.int .i64 pr) := HXp.out.cell 3
      have pp_4 : w3.cell? ⟨w.heap.size, 4, none⟩ = some (.slice pp pn pc) := HXp.out.cell 4
      have ee_0 : w3.cell? ⟨w.heap.size + 1, 0, none⟩ = some (.string ek) := HXe.out.cell 0
      have ee_1 : w3.cell? ⟨w.heap.size + 1, 1, none⟩ = some (.int .i64 es) := HXe.out.cell 1
      have ee_2 : w3.cell? ⟨w.heap.size + 1, 2, none⟩ = some (.int .i64 eg) := HXe.out.cell 2
      have ee_3 : w3.cell? ⟨w.heap.size + 1, 3, none⟩ = some (.int .i64 0) := HXe.out.cell 3
      cases hin : Ky.inn ⟨plo, phi⟩ ek with
      | false =>
        have hany : pl.any (Pg.is ek) = false := Pg.any_miss fun j x hj hx => Pg.not_is (fun hh => by have := Pg.fits_in (Pg.may_parts HMAY.out).2.1 hx; rw [hh, hin] at this; cases this)
        go_wp2_with fail
        clear p_0 p_1 p_2 p_3 p_4 e_0 e_1 e_2 e_3 ef_0 ef_1 ef_2 ef_3 hw3 pp_0 pp_1 pp_2 pp_3 pp_4 ee_0 ee_1 ee_2 ee_3
        refine (put_any true plo phi pr pp pn pc pl ⟨ek, es, eg, 0⟩ _ HP.out.lenq HEp.out (by omega) HP.out.nil).mono ?_
        have hpt : Pg.put ⟨true, plo, phi, pr, pl⟩ ⟨ek, es, eg, 0⟩ = (Pg.zero, 73) := by unfold Pg.put; rw [show Ky.inn ⟨plo, phi⟩ ek = false from hin]; rfl
        rw [hpt]
        clear hpt
        rintro x w4 ⟨v, rfl, hga, hb⟩
        have HXp : Hid (Bk w4 (w.heap.size) 24 #[.bool true, .string plo, .string phi, .int .i64 pr, .slice pp pn pc]) := HXp.out.below hb HXp.out.lt
        have HXe : Hid (Bk w4 (w.heap.size + 1) 28 #[.string ek, .int .i64 es, .int .i64 eg, .int .i64 0]) := HXe.out.below hb HXe.out.lt
        have HEp : Hid (Ens w4 pp (pl)) := HEp.out.below hb (Nat.le_refl _)
        have HBW : Hid (Below w.heap.size w w4) := HBW.out.trans (hb.mono HBW.out.size)
        obtain ⟨qp, qc, hqv, -⟩ := hga
        subst hqv
        clear hb
        obtain ⟨w5, hw5⟩ : ∃ w5, w4.alloc (.cells #[.bool false, .string ⟨#[]⟩, .string ⟨#[]⟩, .int .i64 0, .slice qp 0 qc] 24) = w5 := ⟨_, rfl⟩
        have hb : Below w4.heap.size w4 w5 := by rw [← hw5]; exact (Below.refl _ _).alloc (Nat.le_refl _) _
        have HXq : Hid (Bk w5 w4.heap.size 24 #[.bool false, .string ⟨#[]⟩, .string ⟨#[]⟩, .int .i64 0, .slice qp 0 qc]) := by rw [← hw5]; exact Bk.new _ _ _
        have HXp : Hid (Bk w5 (w.heap.size) 24 #[.bool true, .string plo, .string phi, .int .i64 pr, .slice pp pn pc]) := HXp.out.below hb HXp.out.lt
        have HXe : Hid (Bk w5 (w.heap.size + 1) 28 #[.string ek, .int .i64 es, .int .i64 eg, .int .i64 0]) := HXe.out.below hb HXe.out.lt
        have HEp : Hid (Ens w5 pp (pl)) := HEp.out.below hb (Nat.le_refl _)
        have HBW : Hid (Below w.heap.size w w5) := HBW.out.trans (hb.mono HBW.out.size)
        clear hb
        have p_0 : w5.cell? ⟨w.heap.size, 0, none⟩ = some (.bool true) := HXp.out.cell 0
        have p_1 : w5.cell? ⟨w.heap.size, 1, none⟩ = some (.string plo) := HXp.out.cell 1
        have p_2 : w5.cell? ⟨w.heap.size, 2, none⟩ = some (.string phi) := HXp.out.cell 2
        have p_3 : w5.cell? ⟨w.heap.size, 3, none⟩ = some (.int .i64 pr) := HXp.out.cell 3
        have p_4 : w5.cell? ⟨w.heap.size, 4, none⟩ = some (.slice pp pn pc) := HXp.out.cell 4
        have e_0 : w5.cell? ⟨w.heap.size + 1, 0, none⟩ = some (.string ek) := HXe.out.cell 0
        have e_1 : w5.cell? ⟨w.heap.size + 1, 1, none⟩ = some (.int .i64 es) := HXe.out.cell 1
        have e_2 : w5.cell? ⟨w.heap.size + 1, 2, none⟩ = some (.int .i64 eg) := HXe.out.cell 2
        have e_3 : w5.cell? ⟨w.heap.size + 1, 3, none⟩ = some (.int .i64 0) := HXe.out.cell 3
        go_wp2_with fail
        clear hw5 p_0 p_1 p_2 p_3 p_4 e_0 e_1 e_2 e_3
        refine (remove_any true plo phi pr pp pn pc pl ek _ HP.out.lenq HEp.out (by omega)).mono ?_
        have hrm : Pg.remove ⟨true, plo, phi, pr, pl⟩ ek = (Pg.zero, 4) := by unfold Pg.remove; rw [hany]; rfl
        rw [hrm]
        clear hrm
        rintro x w6 ⟨v, rfl, hga, hb⟩
        have HXp : Hid (Bk w6 (w.heap.size) 24 #[.bool true, .string plo, .string phi, .int .i64 pr, .slice pp pn pc]) := HXp.out.below hb HXp.out.lt
        have HXe : Hid (Bk w6 (w.heap.size + 1) 28 #[.string ek, .int .i64 es, .int .i64 eg, .int .i64 0]) := HXe.out.below hb HXe.out.lt
        have HXq : Hid (Bk w6 (w4.heap.size) 24 #[.bool false, .string ⟨#[]⟩, .string ⟨#[]⟩, .int .i64 0, .slice qp 0 qc]) := HXq.out.below hb HXq.out.lt
        have HEp : Hid (Ens w6 pp (pl)) := HEp.out.below hb (Nat.le_refl _)
        have HBW : Hid (Below w.heap.size w w6) := HBW.out.trans (hb.mono HBW.out.size)
        obtain ⟨rp, rc, hrv, -⟩ := hga
        subst hrv
        clear hb
        obtain ⟨w7, hw7⟩ : ∃ w7, w6.alloc (.cells #[.bool false, .string ⟨#[]⟩, .string ⟨#[]⟩, .int .i64 0, .slice rp 0 rc] 24) = w7 := ⟨_, rfl⟩
        have hb : Below w6.heap.size w6 w7 := by rw [← hw7]; exact (Below.refl _ _).alloc (Nat.le_refl _) _
        have HXrm : Hid (Bk w7 w6.heap.size 24 #[.bool false, .string ⟨#[]⟩, .string ⟨#[]⟩, .int .i64 0, .slice rp 0 rc]) := by rw [← hw7]; exact Bk.new _ _ _
        have HXp : Hid (Bk w7 (w.heap.size) 24 #[.bool true, .string plo, .string phi, .int .i64 pr, .slice pp pn pc]) := HXp.out.below hb HXp.out.lt
        have HXe : Hid (Bk w7 (w.heap.size + 1) 28 #[.string ek, .int .i64 es, .int .i64 eg, .int .i64 0]) := HXe.out.below hb HXe.out.lt
        have HXq : Hid (Bk w7 (w4.heap.size) 24 #[.bool false, .string ⟨#[]⟩, .string ⟨#[]⟩, .int .i64 0, .slice qp 0 qc]) := HXq.out.below hb HXq.out.lt
        have HEp : Hid (Ens w7 pp (pl)) := HEp.out.below hb (Nat.le_refl _)
        have HBW : Hid (Below w.heap.size w w7) := HBW.out.trans (hb.mono HBW.out.size)
        clear hb
        have p_0 : w7.cell? ⟨w.heap.size, 0, none⟩ = some (.bool true) := HXp.out.cell 0
        have p_1 : w7.cell? ⟨w.heap.size, 1, none⟩ = some (.string plo) := HXp.out.cell 1
        have p_2 : w7.cell? ⟨w.heap.size, 2, none⟩ = some (.string phi) := HXp.out.cell 2
        have p_3 : w7.cell? ⟨w.heap.size, 3, none⟩ = some (.int .i64 pr) := HXp.out.cell 3
        have p_4 : w7.cell? ⟨w.heap.size, 4, none⟩ = some (.slice pp pn pc) := HXp.out.cell 4
        go_wp2_with fail
        clear hw7 p_0 p_1 p_2 p_3 p_4
        refine (split_any true plo phi pr pp pn pc pl id _ HP.out.lenq HEp.out (by omega) HP.out.keys).mono ?_
        obtain ⟨⟨ga, gb, k⟩, hsp⟩ : ∃ o, Pg.split ⟨true, plo, phi, pr, pl⟩ id = o := ⟨_, rfl⟩
        rw [hsp]
        rintro x w8 ⟨v1, v2, rfl, hga, hgb, hb⟩
        have HXp : Hid (Bk w8 (w.heap.size) 24 #[.bool true, .string plo, .string phi, .int .i64 pr, .slice pp pn pc]) := HXp.out.below hb HXp.out.lt
        have HXe : Hid (Bk w8 (w.heap.size + 1) 28 #[.string ek, .int .i64 es, .int .i64 eg, .int .i64 0]) := HXe.out.below hb HXe.out.lt
        have HXq : Hid (Bk w8 (w4.heap.size) 24 #[.bool false, .string ⟨#[]⟩, .string ⟨#[]⟩, .int .i64 0, .slice qp 0 qc]) := HXq.out.below hb HXq.out.lt
        have HXrm : Hid (Bk w8 (w6.heap.size) 24 #[.bool false, .string ⟨#[]⟩, .string ⟨#[]⟩, .int .i64 0, .slice rp 0 rc]) := HXrm.out.below hb HXrm.out.lt
        have HEp : Hid (Ens w8 pp (pl)) := HEp.out.below hb (Nat.le_refl _)
        have HBW : Hid (Below w.heap.size w w8) := HBW.out.trans (hb.mono HBW.out.size)
        obtain ⟨af, alo, ahi, ar, ap, an, ac, al, rfl, rfl, han, hae, hnla⟩ := hga.parts
        obtain ⟨bf, blo, bhi, br, bp, bn, bc, bl, rfl, rfl, hbn, hbe, hnlb⟩ := hgb.parts
        have HSP : Hid (Pg.split ⟨true, plo, phi, pr, pl⟩ id = (⟨af, alo, ahi, ar, al⟩, ⟨bf, blo, bhi, br, bl⟩, k)) := hsp
        have HEa : Hid (Ens w8 ap (al)) := hae
        have HEb : Hid (Ens w8 bp (bl)) := hbe
        have HNa : Hid (al.length = an) := han
        have HNb : Hid (bl.length = bn) := hbn
        have HLa : Hid (ap = none → an = 0 ∧ ac = 0) := hnla
        have HLb : Hid (bp = none → bn = 0 ∧ bc = 0) := hnlb
        clear hsp hga hgb hb hae hbe han hbn hnla hnlb
        by_cases hk : k = 0
        · subst hk
          obtain ⟨i, m, x, y, hil, hid1, hgx, hgy, hpt, hse⟩ := Pg.split_ok (g := ⟨true, plo, phi, pr, pl⟩) (id := id) (by rw [HSP.out])
          rw [HSP.out] at hse
          simp only [Prod.mk.injEq, Pp.mk.injEq, and_true] at hse
          obtain ⟨⟨u1, u2, u3, u4, u5⟩, ⟨u6, u7, u8, u9, u0⟩⟩ := hse
          obtain rfl := u1.symm
          obtain rfl := u2.symm
          obtain rfl := u3.symm
          obtain rfl := u4.symm
          obtain rfl := u5.symm
          obtain rfl := u6.symm
          obtain rfl := u7.symm
          obtain rfl := u8.symm
          obtain rfl := u9.symm
          obtain rfl := u0.symm
          simp only at hil hgx hgy hpt
          have hms := Pg.may_split HMAY.out hid1 hgx hgy hpt
          have HMA : Hid (Pg.may true ⟨plo, m⟩ id (pl.take (i + 1)) = true) := hms.1
          have HMB : Hid (Pg.may true ⟨m, phi⟩ pr (pl.drop (i + 1)) = true) := hms.2
          have HMG : Hid (Pg.merge ⟨true, plo, m, id, pl.take (i + 1)⟩ ⟨true, m, phi, pr, pl.drop (i + 1)⟩ = (⟨true, plo, phi, pr, pl⟩, 0)) := Pg.merge_back (Pg.part_facts hpt (HRS.out i x y hgx hgy)).2.2
          have hbA : an ≤ 3518437208780 := by have h1 := HNa.out; have h2 := HP.out.lenq; rw [List.length_take] at h1; omega
          have hbB : bn ≤ 3518437208780 := by have h1 := HNb.out; have h2 := HP.out.lenq; rw [List.length_drop] at h1; omega
          have hbS : an + bn = pn := by have h1 := HNa.out; have h2 := HP.out.lenq; have h3 := HNb.out; rw [List.length_take] at h1; rw [List.length_drop] at h3; omega
          clear hil hid1 hgx hgy hpt hms HSP
          obtain ⟨w9, hw9⟩ : ∃ w9, (w8.alloc (.cells #[.bool true, .string plo, .string m, .int .i64 id, .slice ap an ac] 24)).alloc (.cells #[.bool true, .string m, .string phi, .int .i64 pr, .slice bp bn bc] 24) = w9 := ⟨_, rfl⟩
          have hb : Below w8.heap.size w8 w9 := by rw [← hw9]; exact ((Below.refl _ _).alloc (Nat.le_refl _) _).alloc (by simp) _
          have HXa : Hid (Bk w9 (w8.heap.size) 24 #[.bool true, .string plo, .string m, .int .i64 id, .slice ap an ac]) := by rw [← hw9]; exact (Bk.new _ _ _).alloc _
          have HXb : Hid (Bk w9 (w8.heap.size + 1) 24 #[.bool true, .string m, .string phi, .int .i64 pr, .slice bp bn bc]) := by rw [← hw9]; exact Bk.new1 _ _ _ _
          have HXp : Hid (Bk w9 (w.heap.size) 24 #[.bool true, .string plo, .string phi, .int .i64 pr, .slice pp pn pc]) := HXp.out.below hb HXp.out.lt
          have HXe : Hid (Bk w9 (w.heap.size + 1) 28 #[.string ek, .int .i64 es, .int .i64 eg, .int .i64 0]) := HXe.out.below hb HXe.out.lt
          have HXq : Hid (Bk w9 (w4.heap.size) 24 #[.bool false, .string ⟨#[]⟩, .string ⟨#[]⟩, .int .i64 0, .slice qp 0 qc]) := HXq.out.below hb HXq.out.lt
          have HXrm : Hid (Bk w9 (w6.heap.size) 24 #[.bool false, .string ⟨#[]⟩, .string ⟨#[]⟩, .int .i64 0, .slice rp 0 rc]) := HXrm.out.below hb HXrm.out.lt
          have HEp : Hid (Ens w9 pp (pl)) := HEp.out.below hb (Nat.le_refl _)
          have HEa : Hid (Ens w9 ap (pl.take (i + 1))) := HEa.out.below hb (Nat.le_refl _)
          have HEb : Hid (Ens w9 bp (pl.drop (i + 1))) := HEb.out.below hb (Nat.le_refl _)
          have HBW : Hid (Below w.heap.size w w9) := HBW.out.trans (hb.mono HBW.out.size)
          clear hb
          have a_0 : w9.cell? ⟨w8.heap.size, 0, none⟩ = some (.bool true) := HXa.out.cell 0
          have a_1 : w9.cell? ⟨w8.heap.size, 1, none⟩ = some (.string plo) := HXa.out.cell 1
          have a_2 : w9.cell? ⟨w8.heap.size, 2, none⟩ = some (.string m) := HXa.out.cell 2
          have a_3 : w9.cell? ⟨w8.heap.size, 3, none⟩ = some (.int .i64 id) := HXa.out.cell 3
          have a_4 : w9.cell? ⟨w8.heap.size, 4, none⟩ = some (.slice ap an ac) := HXa.out.cell 4
          have b_0 : w9.cell? ⟨w8.heap.size + 1, 0, none⟩ = some (.bool true) := HXb.out.cell 0
          have b_1 : w9.cell? ⟨w8.heap.size + 1, 1, none⟩ = some (.string m) := HXb.out.cell 1
          have b_2 : w9.cell? ⟨w8.heap.size + 1, 2, none⟩ = some (.string phi) := HXb.out.cell 2
          have b_3 : w9.cell? ⟨w8.heap.size + 1, 3, none⟩ = some (.int .i64 pr) := HXb.out.cell 3
          have b_4 : w9.cell? ⟨w8.heap.size + 1, 4, none⟩ = some (.slice bp bn bc) := HXb.out.cell 4
          go_wp2_with fail
          clear hw9 a_0 a_1 a_2 a_3 a_4 b_0 b_1 b_2 b_3 b_4
          refine (check_any true plo m id ap an ac (pl.take (i + 1)) _ HNa.out HEa.out (by omega)).mono ?_
          rw [HMA.out]
          simp only [if_true]
          rintro x w10 ⟨rfl, hb⟩
          have HXp : Hid (Bk w10 (w.heap.size) 24 #[.bool true, .string plo, .string phi, .int .i64 pr, .slice pp pn pc]) := HXp.out.below hb HXp.out.lt
          have HXe : Hid (Bk w10 (w.heap.size + 1) 28 #[.string ek, .int .i64 es, .int .i64 eg, .int .i64 0]) := HXe.out.below hb HXe.out.lt
          have HXq : Hid (Bk w10 (w4.heap.size) 24 #[.bool false, .string ⟨#[]⟩, .string ⟨#[]⟩, .int .i64 0, .slice qp 0 qc]) := HXq.out.below hb HXq.out.lt
          have HXrm : Hid (Bk w10 (w6.heap.size) 24 #[.bool false, .string ⟨#[]⟩, .string ⟨#[]⟩, .int .i64 0, .slice rp 0 rc]) := HXrm.out.below hb HXrm.out.lt
          have HXa : Hid (Bk w10 (w8.heap.size) 24 #[.bool true, .string plo, .string m, .int .i64 id, .slice ap an ac]) := HXa.out.below hb HXa.out.lt
          have HXb : Hid (Bk w10 (w8.heap.size + 1) 24 #[.bool true, .string m, .string phi, .int .i64 pr, .slice bp bn bc]) := HXb.out.below hb HXb.out.lt
          have HEp : Hid (Ens w10 pp (pl)) := HEp.out.below hb (Nat.le_refl _)
          have HEa : Hid (Ens w10 ap (pl.take (i + 1))) := HEa.out.below hb (Nat.le_refl _)
          have HEb : Hid (Ens w10 bp (pl.drop (i + 1))) := HEb.out.below hb (Nat.le_refl _)
          have HBW : Hid (Below w.heap.size w w10) := HBW.out.trans (hb.mono HBW.out.size)
          clear hb
          have a_0 : w10.cell? ⟨w8.heap.size, 0, none⟩ = some (.bool true) := HXa.out.cell 0
          have a_1 : w10.cell? ⟨w8.heap.size, 1, none⟩ = some (.string plo) := HXa.out.cell 1
          have a_2 : w10.cell? ⟨w8.heap.size, 2, none⟩ = some (.string m) := HXa.out.cell 2
          have a_3 : w10.cell? ⟨w8.heap.size, 3, none⟩ = some (.int .i64 id) := HXa.out.cell 3
          have a_4 : w10.cell? ⟨w8.heap.size, 4, none⟩ = some (.slice ap an ac) := HXa.out.cell 4
          have b_0 : w10.cell? ⟨w8.heap.size + 1, 0, none⟩ = some (.bool true) := HXb.out.cell 0
          have b_1 : w10.cell? ⟨w8.heap.size + 1, 1, none⟩ = some (.string m) := HXb.out.cell 1
          have b_2 : w10.cell? ⟨w8.heap.size + 1, 2, none⟩ = some (.string phi) := HXb.out.cell 2
          have b_3 : w10.cell? ⟨w8.heap.size + 1, 3, none⟩ = some (.int .i64 pr) := HXb.out.cell 3
          have b_4 : w10.cell? ⟨w8.heap.size + 1, 4, none⟩ = some (.slice bp bn bc) := HXb.out.cell 4
          go_wp2_with fail
          clear a_0 a_1 a_2 a_3 a_4 b_0 b_1 b_2 b_3 b_4
          refine (check_any true m phi pr bp bn bc (pl.drop (i + 1)) _ HNb.out HEb.out (by omega)).mono ?_
          rw [HMB.out]
          simp only [if_true]
          rintro x w11 ⟨rfl, hb⟩
          have HXp : Hid (Bk w11 (w.heap.size) 24 #[.bool true, .string plo, .string phi, .int .i64 pr, .slice pp pn pc]) := HXp.out.below hb HXp.out.lt
          have HXe : Hid (Bk w11 (w.heap.size + 1) 28 #[.string ek, .int .i64 es, .int .i64 eg, .int .i64 0]) := HXe.out.below hb HXe.out.lt
          have HXq : Hid (Bk w11 (w4.heap.size) 24 #[.bool false, .string ⟨#[]⟩, .string ⟨#[]⟩, .int .i64 0, .slice qp 0 qc]) := HXq.out.below hb HXq.out.lt
          have HXrm : Hid (Bk w11 (w6.heap.size) 24 #[.bool false, .string ⟨#[]⟩, .string ⟨#[]⟩, .int .i64 0, .slice rp 0 rc]) := HXrm.out.below hb HXrm.out.lt
          have HXa : Hid (Bk w11 (w8.heap.size) 24 #[.bool true, .string plo, .string m, .int .i64 id, .slice ap an ac]) := HXa.out.below hb HXa.out.lt
          have HXb : Hid (Bk w11 (w8.heap.size + 1) 24 #[.bool true, .string m, .string phi, .int .i64 pr, .slice bp bn bc]) := HXb.out.below hb HXb.out.lt
          have HEp : Hid (Ens w11 pp (pl)) := HEp.out.below hb (Nat.le_refl _)
          have HEa : Hid (Ens w11 ap (pl.take (i + 1))) := HEa.out.below hb (Nat.le_refl _)
          have HEb : Hid (Ens w11 bp (pl.drop (i + 1))) := HEb.out.below hb (Nat.le_refl _)
          have HBW : Hid (Below w.heap.size w w11) := HBW.out.trans (hb.mono HBW.out.size)
          clear hb
          have hidn : (id != id) = false := by simp
          have a_0 : w11.cell? ⟨w8.heap.size, 0, none⟩ = some (.bool true) := HXa.out.cell 0
          have a_1 : w11.cell? ⟨w8.heap.size, 1, none⟩ = some (.string plo) := HXa.out.cell 1
          have a_2 : w11.cell? ⟨w8.heap.size, 2, none⟩ = some (.string m) := HXa.out.cell 2
          have a_3 : w11.cell? ⟨w8.heap.size, 3, none⟩ = some (.int .i64 id) := HXa.out.cell 3
          have a_4 : w11.cell? ⟨w8.heap.size, 4, none⟩ = some (.slice ap an ac) := HXa.out.cell 4
          have b_0 : w11.cell? ⟨w8.heap.size + 1, 0, none⟩ = some (.bool true) := HXb.out.cell 0
          have b_1 : w11.cell? ⟨w8.heap.size + 1, 1, none⟩ = some (.string m) := HXb.out.cell 1
          have b_2 : w11.cell? ⟨w8.heap.size + 1, 2, none⟩ = some (.string phi) := HXb.out.cell 2
          have b_3 : w11.cell? ⟨w8.heap.size + 1, 3, none⟩ = some (.int .i64 pr) := HXb.out.cell 3
          have b_4 : w11.cell? ⟨w8.heap.size + 1, 4, none⟩ = some (.slice bp bn bc) := HXb.out.cell 4
          go_wp2_with fail
          clear a_0 a_1 a_2 a_3 a_4 b_0 b_1 b_2 b_3 b_4
          refine (merge_any ⟨true, plo, m, id, pl.take (i + 1)⟩ ⟨true, m, phi, pr, pl.drop (i + 1)⟩ ap bp an bn ac bc _ HNa.out HNb.out HEa.out HEb.out HLa.out HLb.out (by omega) (by omega)).mono ?_
          rw [HMG.out]
          rintro x w12 ⟨v, rfl, hgm, hb⟩
          have HXp : Hid (Bk w12 (w.heap.size) 24 #[.bool true, .string plo, .string phi, .int .i64 pr, .slice pp pn pc]) := HXp.out.below hb HXp.out.lt
          have HXe : Hid (Bk w12 (w.heap.size + 1) 28 #[.string ek, .int .i64 es, .int .i64 eg, .int .i64 0]) := HXe.out.below hb HXe.out.lt
          have HXq : Hid (Bk w12 (w4.heap.size) 24 #[.bool false, .string ⟨#[]⟩, .string ⟨#[]⟩, .int .i64 0, .slice qp 0 qc]) := HXq.out.below hb HXq.out.lt
          have HXrm : Hid (Bk w12 (w6.heap.size) 24 #[.bool false, .string ⟨#[]⟩, .string ⟨#[]⟩, .int .i64 0, .slice rp 0 rc]) := HXrm.out.below hb HXrm.out.lt
          have HXa : Hid (Bk w12 (w8.heap.size) 24 #[.bool true, .string plo, .string m, .int .i64 id, .slice ap an ac]) := HXa.out.below hb HXa.out.lt
          have HXb : Hid (Bk w12 (w8.heap.size + 1) 24 #[.bool true, .string m, .string phi, .int .i64 pr, .slice bp bn bc]) := HXb.out.below hb HXb.out.lt
          have HEp : Hid (Ens w12 pp (pl)) := HEp.out.below hb (Nat.le_refl _)
          have HEa : Hid (Ens w12 ap (pl.take (i + 1))) := HEa.out.below hb (Nat.le_refl _)
          have HEb : Hid (Ens w12 bp (pl.drop (i + 1))) := HEb.out.below hb (Nat.le_refl _)
          have HBW : Hid (Below w.heap.size w w12) := HBW.out.trans (hb.mono HBW.out.size)
          obtain ⟨mf, mlo, mhi, mr, mp, mn, mc, ml, hmq, rfl, hmn, hme, -⟩ := hgm.parts
          simp only [Pp.mk.injEq] at hmq
          obtain ⟨rfl, rfl, rfl, rfl, rfl⟩ := hmq
          obtain rfl : pn = mn := by rw [← HP.out.lenq, ← hmn]
          have HEm : Hid (Ens w12 mp (pl)) := hme
          clear hb hgm hme hmn
          obtain ⟨w13, hw13⟩ : ∃ w13, w12.alloc (.cells #[.bool true, .string plo, .string phi, .int .i64 pr, .slice mp pn mc] 24) = w13 := ⟨_, rfl⟩
          have hb : Below w12.heap.size w12 w13 := by rw [← hw13]; exact (Below.refl _ _).alloc (Nat.le_refl _) _
          have HXm : Hid (Bk w13 w12.heap.size 24 #[.bool true, .string plo, .string phi, .int .i64 pr, .slice mp pn mc]) := by rw [← hw13]; exact Bk.new _ _ _
          have HXp : Hid (Bk w13 (w.heap.size) 24 #[.bool true, .string plo, .string phi, .int .i64 pr, .slice pp pn pc]) := HXp.out.below hb HXp.out.lt
          have HXe : Hid (Bk w13 (w.heap.size + 1) 28 #[.string ek, .int .i64 es, .int .i64 eg, .int .i64 0]) := HXe.out.below hb HXe.out.lt
          have HXq : Hid (Bk w13 (w4.heap.size) 24 #[.bool false, .string ⟨#[]⟩, .string ⟨#[]⟩, .int .i64 0, .slice qp 0 qc]) := HXq.out.below hb HXq.out.lt
          have HXrm : Hid (Bk w13 (w6.heap.size) 24 #[.bool false, .string ⟨#[]⟩, .string ⟨#[]⟩, .int .i64 0, .slice rp 0 rc]) := HXrm.out.below hb HXrm.out.lt
          have HXa : Hid (Bk w13 (w8.heap.size) 24 #[.bool true, .string plo, .string m, .int .i64 id, .slice ap an ac]) := HXa.out.below hb HXa.out.lt
          have HXb : Hid (Bk w13 (w8.heap.size + 1) 24 #[.bool true, .string m, .string phi, .int .i64 pr, .slice bp bn bc]) := HXb.out.below hb HXb.out.lt
          have HEp : Hid (Ens w13 pp (pl)) := HEp.out.below hb (Nat.le_refl _)
          have HEa : Hid (Ens w13 ap (pl.take (i + 1))) := HEa.out.below hb (Nat.le_refl _)
          have HEb : Hid (Ens w13 bp (pl.drop (i + 1))) := HEb.out.below hb (Nat.le_refl _)
          have HEm : Hid (Ens w13 mp (pl)) := HEm.out.below hb (Nat.le_refl _)
          have HBW : Hid (Below w.heap.size w w13) := HBW.out.trans (hb.mono HBW.out.size)
          clear hb
          have m_0 : w13.cell? ⟨w12.heap.size, 0, none⟩ = some (.bool true) := HXm.out.cell 0
          have m_1 : w13.cell? ⟨w12.heap.size, 1, none⟩ = some (.string plo) := HXm.out.cell 1
          have m_2 : w13.cell? ⟨w12.heap.size, 2, none⟩ = some (.string phi) := HXm.out.cell 2
          have m_3 : w13.cell? ⟨w12.heap.size, 3, none⟩ = some (.int .i64 pr) := HXm.out.cell 3
          have m_4 : w13.cell? ⟨w12.heap.size, 4, none⟩ = some (.slice mp pn mc) := HXm.out.cell 4
          have p_0 : w13.cell? ⟨w.heap.size, 0, none⟩ = some (.bool true) := HXp.out.cell 0
          have p_1 : w13.cell? ⟨w.heap.size, 1, none⟩ = some (.string plo) := HXp.out.cell 1
          have p_2 : w13.cell? ⟨w.heap.size, 2, none⟩ = some (.string phi) := HXp.out.cell 2
          have p_3 : w13.cell? ⟨w.heap.size, 3, none⟩ = some (.int .i64 pr) := HXp.out.cell 3
          have p_4 : w13.cell? ⟨w.heap.size, 4, none⟩ = some (.slice pp pn pc) := HXp.out.cell 4
          go_wp2_with fail
          clear hw13 m_0 m_1 m_2 m_3 m_4 p_0 p_1 p_2 p_3 p_4
          refine (same_any ⟨true, plo, phi, pr, pl⟩ ⟨true, plo, phi, pr, pl⟩ mp pp pn pn mc pc _ HP.out.lenq HP.out.lenq HEm.out HEp.out (by omega)).mono ?_
          rw [Pg.same_self]
          rintro x w14 ⟨rfl, hb⟩
          have HXp : Hid (Bk w14 (w.heap.size) 24 #[.bool true, .string plo, .string phi, .int .i64 pr, .slice pp pn pc]) := HXp.out.below hb HXp.out.lt
          have HXe : Hid (Bk w14 (w.heap.size + 1) 28 #[.string ek, .int .i64 es, .int .i64 eg, .int .i64 0]) := HXe.out.below hb HXe.out.lt
          have HXq : Hid (Bk w14 (w4.heap.size) 24 #[.bool false, .string ⟨#[]⟩, .string ⟨#[]⟩, .int .i64 0, .slice qp 0 qc]) := HXq.out.below hb HXq.out.lt
          have HXrm : Hid (Bk w14 (w6.heap.size) 24 #[.bool false, .string ⟨#[]⟩, .string ⟨#[]⟩, .int .i64 0, .slice rp 0 rc]) := HXrm.out.below hb HXrm.out.lt
          have HXa : Hid (Bk w14 (w8.heap.size) 24 #[.bool true, .string plo, .string m, .int .i64 id, .slice ap an ac]) := HXa.out.below hb HXa.out.lt
          have HXb : Hid (Bk w14 (w8.heap.size + 1) 24 #[.bool true, .string m, .string phi, .int .i64 pr, .slice bp bn bc]) := HXb.out.below hb HXb.out.lt
          have HXm : Hid (Bk w14 (w12.heap.size) 24 #[.bool true, .string plo, .string phi, .int .i64 pr, .slice mp pn mc]) := HXm.out.below hb HXm.out.lt
          have HEp : Hid (Ens w14 pp (pl)) := HEp.out.below hb (Nat.le_refl _)
          have HEa : Hid (Ens w14 ap (pl.take (i + 1))) := HEa.out.below hb (Nat.le_refl _)
          have HEb : Hid (Ens w14 bp (pl.drop (i + 1))) := HEb.out.below hb (Nat.le_refl _)
          have HEm : Hid (Ens w14 mp (pl)) := HEm.out.below hb (Nat.le_refl _)
          have HBW : Hid (Below w.heap.size w w14) := HBW.out.trans (hb.mono HBW.out.size)
          clear hb
          go_wp2
          go_ret
          exact ⟨rfl, HBW.out⟩
        · have hno := Pg.split_no (g := ⟨true, plo, phi, pr, pl⟩) (id := id) HRS.out (by rw [HSP.out]; exact hk)
          have hkn : (k != 0) = true := by simp [hk]
          obtain ⟨w9, hw9⟩ : ∃ w9, (w8.alloc (.cells #[.bool af, .string alo, .string ahi, .int .i64 ar, .slice ap an ac] 24)).alloc (.cells #[.bool bf, .string blo, .string bhi, .int .i64 br, .slice bp bn bc] 24) = w9 := ⟨_, rfl⟩
          have hb : Below w8.heap.size w8 w9 := by rw [← hw9]; exact ((Below.refl _ _).alloc (Nat.le_refl _) _).alloc (by simp) _
          have HXa : Hid (Bk w9 (w8.heap.size) 24 #[.bool af, .string alo, .string ahi, .int .i64 ar, .slice ap an ac]) := by rw [← hw9]; exact (Bk.new _ _ _).alloc _
          have HXb : Hid (Bk w9 (w8.heap.size + 1) 24 #[.bool bf, .string blo, .string bhi, .int .i64 br, .slice bp bn bc]) := by rw [← hw9]; exact Bk.new1 _ _ _ _
          have HXp : Hid (Bk w9 (w.heap.size) 24 #[.bool true, .string plo, .string phi, .int .i64 pr, .slice pp pn pc]) := HXp.out.below hb HXp.out.lt
          have HXe : Hid (Bk w9 (w.heap.size + 1) 28 #[.string ek, .int .i64 es, .int .i64 eg, .int .i64 0]) := HXe.out.below hb HXe.out.lt
          have HXq : Hid (Bk w9 (w4.heap.size) 24 #[.bool false, .string ⟨#[]⟩, .string ⟨#[]⟩, .int .i64 0, .slice qp 0 qc]) := HXq.out.below hb HXq.out.lt
          have HXrm : Hid (Bk w9 (w6.heap.size) 24 #[.bool false, .string ⟨#[]⟩, .string ⟨#[]⟩, .int .i64 0, .slice rp 0 rc]) := HXrm.out.below hb HXrm.out.lt
          have HEp : Hid (Ens w9 pp (pl)) := HEp.out.below hb (Nat.le_refl _)
          have HEa : Hid (Ens w9 ap (al)) := HEa.out.below hb (Nat.le_refl _)
          have HEb : Hid (Ens w9 bp (bl)) := HEb.out.below hb (Nat.le_refl _)
          have HBW : Hid (Below w.heap.size w w9) := HBW.out.trans (hb.mono HBW.out.size)
          clear hb
          have p_0 : w9.cell? ⟨w.heap.size, 0, none⟩ = some (.bool true) := HXp.out.cell 0
          have p_1 : w9.cell? ⟨w.heap.size, 1, none⟩ = some (.string plo) := HXp.out.cell 1
          have p_2 : w9.cell? ⟨w.heap.size, 2, none⟩ = some (.string phi) := HXp.out.cell 2
          have p_3 : w9.cell? ⟨w.heap.size, 3, none⟩ = some (.int .i64 pr) := HXp.out.cell 3
          have p_4 : w9.cell? ⟨w.heap.size, 4, none⟩ = some (.slice pp pn pc) := HXp.out.cell 4
          rcases hno with hno | hno
          · have hid2 : decide (id < 1) = true := decide_eq_true hno
            go_wp2
            go_ret
            exact ⟨rfl, HBW.out⟩
          · have hl2 : (pn : Int) < 2 := by have := HP.out.lenq; simp only at hno; omega
            by_cases hid2 : id < 1
            · have hid3 : decide (id < 1) = true := decide_eq_true hid2
              go_wp2
              go_ret
              exact ⟨rfl, HBW.out⟩
            · have hid3 : decide (id < 1) = false := decide_eq_false hid2
              go_wp2
              go_ret
              exact ⟨rfl, HBW.out⟩
      | true =>
        go_wp2_with fail
        clear p_0 p_1 p_2 p_3 p_4 e_0 e_1 e_2 e_3 ef_0 ef_1 ef_2 ef_3 hw3 pp_0 pp_1 pp_2 pp_3 pp_4 ee_0 ee_1 ee_2 ee_3
        refine (put_any true plo phi pr pp pn pc pl ⟨ek, es, eg, 0⟩ _ HP.out.lenq HEp.out (by omega) HP.out.nil).mono ?_
        have hpt : Pg.put ⟨true, plo, phi, pr, pl⟩ ⟨ek, es, eg, 0⟩ = (⟨true, plo, phi, pr, Pg.putL pl ⟨ek, es, eg, 0⟩⟩, 0) := by unfold Pg.put; rw [show Ky.inn ⟨plo, phi⟩ ek = true from hin]; rfl
        rw [hpt]
        clear hpt
        rintro x w4 ⟨v, rfl, hga, hb⟩
        have HXp : Hid (Bk w4 (w.heap.size) 24 #[.bool true, .string plo, .string phi, .int .i64 pr, .slice pp pn pc]) := HXp.out.below hb HXp.out.lt
        have HXe : Hid (Bk w4 (w.heap.size + 1) 28 #[.string ek, .int .i64 es, .int .i64 eg, .int .i64 0]) := HXe.out.below hb HXe.out.lt
        have HEp : Hid (Ens w4 pp (pl)) := HEp.out.below hb (Nat.le_refl _)
        have HBW : Hid (Below w.heap.size w w4) := HBW.out.trans (hb.mono HBW.out.size)
        obtain ⟨qf, qlo, qhi, qr, qp, qn, qc, ql, hq, rfl, hqn, hqe, -⟩ := hga.parts
        simp only [Pp.mk.injEq] at hq
        obtain ⟨rfl, rfl, rfl, rfl, rfl⟩ := hq
        have hqb : qn ≤ 3518437208781 := by have h1 := Pg.putL_len pl ⟨ek, es, eg, 0⟩; have h2 := HP.out.lenq; omega
        have HMQ : Hid (Pg.may true ⟨plo, phi⟩ pr (Pg.putL pl ⟨ek, es, eg, 0⟩) = true) := Pg.may_put HMAY.out hin rfl
        obtain ⟨ql, hql⟩ : ∃ ql, Pg.putL pl ⟨ek, es, eg, 0⟩ = ql := ⟨_, rfl⟩
        rw [hql] at hqn hqe HMQ
        have HNq : Hid (ql.length = qn) := hqn
        have HEq : Hid (Ens w4 qp (ql)) := hqe
        clear hb hga hqn hqe hql
        obtain ⟨w5, hw5⟩ : ∃ w5, w4.alloc (.cells #[.bool true, .string plo, .string phi, .int .i64 pr, .slice qp qn qc] 24) = w5 := ⟨_, rfl⟩
        have hb : Below w4.heap.size w4 w5 := by rw [← hw5]; exact (Below.refl _ _).alloc (Nat.le_refl _) _
        have HXq : Hid (Bk w5 w4.heap.size 24 #[.bool true, .string plo, .string phi, .int .i64 pr, .slice qp qn qc]) := by rw [← hw5]; exact Bk.new _ _ _
        have HXp : Hid (Bk w5 (w.heap.size) 24 #[.bool true, .string plo, .string phi, .int .i64 pr, .slice pp pn pc]) := HXp.out.below hb HXp.out.lt
        have HXe : Hid (Bk w5 (w.heap.size + 1) 28 #[.string ek, .int .i64 es, .int .i64 eg, .int .i64 0]) := HXe.out.below hb HXe.out.lt
        have HEp : Hid (Ens w5 pp (pl)) := HEp.out.below hb (Nat.le_refl _)
        have HEq : Hid (Ens w5 qp (ql)) := HEq.out.below hb (Nat.le_refl _)
        have HBW : Hid (Below w.heap.size w w5) := HBW.out.trans (hb.mono HBW.out.size)
        clear hb
        have q_0 : w5.cell? ⟨w4.heap.size, 0, none⟩ = some (.bool true) := HXq.out.cell 0
        have q_1 : w5.cell? ⟨w4.heap.size, 1, none⟩ = some (.string plo) := HXq.out.cell 1
        have q_2 : w5.cell? ⟨w4.heap.size, 2, none⟩ = some (.string phi) := HXq.out.cell 2
        have q_3 : w5.cell? ⟨w4.heap.size, 3, none⟩ = some (.int .i64 pr) := HXq.out.cell 3
        have q_4 : w5.cell? ⟨w4.heap.size, 4, none⟩ = some (.slice qp qn qc) := HXq.out.cell 4
        go_wp2_with fail
        clear hw5 q_0 q_1 q_2 q_3 q_4
        refine (check_any true plo phi pr qp qn qc ql _ HNq.out HEq.out (by omega)).mono ?_
        rw [HMQ.out]
        simp only [if_true]
        rintro x w6 ⟨rfl, hb⟩
        have HXp : Hid (Bk w6 (w.heap.size) 24 #[.bool true, .string plo, .string phi, .int .i64 pr, .slice pp pn pc]) := HXp.out.below hb HXp.out.lt
        have HXe : Hid (Bk w6 (w.heap.size + 1) 28 #[.string ek, .int .i64 es, .int .i64 eg, .int .i64 0]) := HXe.out.below hb HXe.out.lt
        have HXq : Hid (Bk w6 (w4.heap.size) 24 #[.bool true, .string plo, .string phi, .int .i64 pr, .slice qp qn qc]) := HXq.out.below hb HXq.out.lt
        have HEp : Hid (Ens w6 pp (pl)) := HEp.out.below hb (Nat.le_refl _)
        have HEq : Hid (Ens w6 qp (ql)) := HEq.out.below hb (Nat.le_refl _)
        have HBW : Hid (Below w.heap.size w w6) := HBW.out.trans (hb.mono HBW.out.size)
        clear hb
        cases hany : pl.any (Pg.is ek) with
        | false =>
          have p_0 : w6.cell? ⟨w.heap.size, 0, none⟩ = some (.bool true) := HXp.out.cell 0
          have p_1 : w6.cell? ⟨w.heap.size, 1, none⟩ = some (.string plo) := HXp.out.cell 1
          have p_2 : w6.cell? ⟨w.heap.size, 2, none⟩ = some (.string phi) := HXp.out.cell 2
          have p_3 : w6.cell? ⟨w.heap.size, 3, none⟩ = some (.int .i64 pr) := HXp.out.cell 3
          have p_4 : w6.cell? ⟨w.heap.size, 4, none⟩ = some (.slice pp pn pc) := HXp.out.cell 4
          have e_0 : w6.cell? ⟨w.heap.size + 1, 0, none⟩ = some (.string ek) := HXe.out.cell 0
          have e_1 : w6.cell? ⟨w.heap.size + 1, 1, none⟩ = some (.int .i64 es) := HXe.out.cell 1
          have e_2 : w6.cell? ⟨w.heap.size + 1, 2, none⟩ = some (.int .i64 eg) := HXe.out.cell 2
          have e_3 : w6.cell? ⟨w.heap.size + 1, 3, none⟩ = some (.int .i64 0) := HXe.out.cell 3
          go_wp2_with fail
          clear p_0 p_1 p_2 p_3 p_4 e_0 e_1 e_2 e_3
          refine (remove_any true plo phi pr pp pn pc pl ek _ HP.out.lenq HEp.out (by omega)).mono ?_
          have hrm : Pg.remove ⟨true, plo, phi, pr, pl⟩ ek = (Pg.zero, 4) := by unfold Pg.remove; rw [hany]; rfl
          rw [hrm]
          clear hrm
          rintro x w7 ⟨v, rfl, hga, hb⟩
          have HXp : Hid (Bk w7 (w.heap.size) 24 #[.bool true, .string plo, .string phi, .int .i64 pr, .slice pp pn pc]) := HXp.out.below hb HXp.out.lt
          have HXe : Hid (Bk w7 (w.heap.size + 1) 28 #[.string ek, .int .i64 es, .int .i64 eg, .int .i64 0]) := HXe.out.below hb HXe.out.lt
          have HXq : Hid (Bk w7 (w4.heap.size) 24 #[.bool true, .string plo, .string phi, .int .i64 pr, .slice qp qn qc]) := HXq.out.below hb HXq.out.lt
          have HEp : Hid (Ens w7 pp (pl)) := HEp.out.below hb (Nat.le_refl _)
          have HEq : Hid (Ens w7 qp (ql)) := HEq.out.below hb (Nat.le_refl _)
          have HBW : Hid (Below w.heap.size w w7) := HBW.out.trans (hb.mono HBW.out.size)
          obtain ⟨rp, rc, hrv, -⟩ := hga
          subst hrv
          clear hb
          obtain ⟨w8, hw8⟩ : ∃ w8, w7.alloc (.cells #[.bool false, .string ⟨#[]⟩, .string ⟨#[]⟩, .int .i64 0, .slice rp 0 rc] 24) = w8 := ⟨_, rfl⟩
          have hb : Below w7.heap.size w7 w8 := by rw [← hw8]; exact (Below.refl _ _).alloc (Nat.le_refl _) _
          have HXrm : Hid (Bk w8 w7.heap.size 24 #[.bool false, .string ⟨#[]⟩, .string ⟨#[]⟩, .int .i64 0, .slice rp 0 rc]) := by rw [← hw8]; exact Bk.new _ _ _
          have HXp : Hid (Bk w8 (w.heap.size) 24 #[.bool true, .string plo, .string phi, .int .i64 pr, .slice pp pn pc]) := HXp.out.below hb HXp.out.lt
          have HXe : Hid (Bk w8 (w.heap.size + 1) 28 #[.string ek, .int .i64 es, .int .i64 eg, .int .i64 0]) := HXe.out.below hb HXe.out.lt
          have HXq : Hid (Bk w8 (w4.heap.size) 24 #[.bool true, .string plo, .string phi, .int .i64 pr, .slice qp qn qc]) := HXq.out.below hb HXq.out.lt
          have HEp : Hid (Ens w8 pp (pl)) := HEp.out.below hb (Nat.le_refl _)
          have HEq : Hid (Ens w8 qp (ql)) := HEq.out.below hb (Nat.le_refl _)
          have HBW : Hid (Below w.heap.size w w8) := HBW.out.trans (hb.mono HBW.out.size)
          clear hb
          have p_0 : w8.cell? ⟨w.heap.size, 0, none⟩ = some (.bool true) := HXp.out.cell 0
          have p_1 : w8.cell? ⟨w.heap.size, 1, none⟩ = some (.string plo) := HXp.out.cell 1
          have p_2 : w8.cell? ⟨w.heap.size, 2, none⟩ = some (.string phi) := HXp.out.cell 2
          have p_3 : w8.cell? ⟨w.heap.size, 3, none⟩ = some (.int .i64 pr) := HXp.out.cell 3
          have p_4 : w8.cell? ⟨w.heap.size, 4, none⟩ = some (.slice pp pn pc) := HXp.out.cell 4
          go_wp2_with fail
          clear hw8 p_0 p_1 p_2 p_3 p_4
          refine (split_any true plo phi pr pp pn pc pl id _ HP.out.lenq HEp.out (by omega) HP.out.keys).mono ?_
          obtain ⟨⟨ga, gb, k⟩, hsp⟩ : ∃ o, Pg.split ⟨true, plo, phi, pr, pl⟩ id = o := ⟨_, rfl⟩
          rw [hsp]
          rintro x w9 ⟨v1, v2, rfl, hga, hgb, hb⟩
          have HXp : Hid (Bk w9 (w.heap.size) 24 #[.bool true, .string plo, .string phi, .int .i64 pr, .slice pp pn pc]) := HXp.out.below hb HXp.out.lt
          have HXe : Hid (Bk w9 (w.heap.size + 1) 28 #[.string ek, .int .i64 es, .int .i64 eg, .int .i64 0]) := HXe.out.below hb HXe.out.lt
          have HXq : Hid (Bk w9 (w4.heap.size) 24 #[.bool true, .string plo, .string phi, .int .i64 pr, .slice qp qn qc]) := HXq.out.below hb HXq.out.lt
          have HXrm : Hid (Bk w9 (w7.heap.size) 24 #[.bool false, .string ⟨#[]⟩, .string ⟨#[]⟩, .int .i64 0, .slice rp 0 rc]) := HXrm.out.below hb HXrm.out.lt
          have HEp : Hid (Ens w9 pp (pl)) := HEp.out.below hb (Nat.le_refl _)
          have HEq : Hid (Ens w9 qp (ql)) := HEq.out.below hb (Nat.le_refl _)
          have HBW : Hid (Below w.heap.size w w9) := HBW.out.trans (hb.mono HBW.out.size)
          obtain ⟨af, alo, ahi, ar, ap, an, ac, al, rfl, rfl, han, hae, hnla⟩ := hga.parts
          obtain ⟨bf, blo, bhi, br, bp, bn, bc, bl, rfl, rfl, hbn, hbe, hnlb⟩ := hgb.parts
          have HSP : Hid (Pg.split ⟨true, plo, phi, pr, pl⟩ id = (⟨af, alo, ahi, ar, al⟩, ⟨bf, blo, bhi, br, bl⟩, k)) := hsp
          have HEa : Hid (Ens w9 ap (al)) := hae
          have HEb : Hid (Ens w9 bp (bl)) := hbe
          have HNa : Hid (al.length = an) := han
          have HNb : Hid (bl.length = bn) := hbn
          have HLa : Hid (ap = none → an = 0 ∧ ac = 0) := hnla
          have HLb : Hid (bp = none → bn = 0 ∧ bc = 0) := hnlb
          clear hsp hga hgb hb hae hbe han hbn hnla hnlb
          by_cases hk : k = 0
          · subst hk
            obtain ⟨i, m, x, y, hil, hid1, hgx, hgy, hpt, hse⟩ := Pg.split_ok (g := ⟨true, plo, phi, pr, pl⟩) (id := id) (by rw [HSP.out])
            rw [HSP.out] at hse
            simp only [Prod.mk.injEq, Pp.mk.injEq, and_true] at hse
            obtain ⟨⟨u1, u2, u3, u4, u5⟩, ⟨u6, u7, u8, u9, u0⟩⟩ := hse
            obtain rfl := u1.symm
            obtain rfl := u2.symm
            obtain rfl := u3.symm
            obtain rfl := u4.symm
            obtain rfl := u5.symm
            obtain rfl := u6.symm
            obtain rfl := u7.symm
            obtain rfl := u8.symm
            obtain rfl := u9.symm
            obtain rfl := u0.symm
            simp only at hil hgx hgy hpt
            have hms := Pg.may_split HMAY.out hid1 hgx hgy hpt
            have HMA : Hid (Pg.may true ⟨plo, m⟩ id (pl.take (i + 1)) = true) := hms.1
            have HMB : Hid (Pg.may true ⟨m, phi⟩ pr (pl.drop (i + 1)) = true) := hms.2
            have HMG : Hid (Pg.merge ⟨true, plo, m, id, pl.take (i + 1)⟩ ⟨true, m, phi, pr, pl.drop (i + 1)⟩ = (⟨true, plo, phi, pr, pl⟩, 0)) := Pg.merge_back (Pg.part_facts hpt (HRS.out i x y hgx hgy)).2.2
            have hbA : an ≤ 3518437208780 := by have h1 := HNa.out; have h2 := HP.out.lenq; rw [List.length_take] at h1; omega
            have hbB : bn ≤ 3518437208780 := by have h1 := HNb.out; have h2 := HP.out.lenq; rw [List.length_drop] at h1; omega
            have hbS : an + bn = pn := by have h1 := HNa.out; have h2 := HP.out.lenq; have h3 := HNb.out; rw [List.length_take] at h1; rw [List.length_drop] at h3; omega
            clear hil hid1 hgx hgy hpt hms HSP
            obtain ⟨w10, hw10⟩ : ∃ w10, (w9.alloc (.cells #[.bool true, .string plo, .string m, .int .i64 id, .slice ap an ac] 24)).alloc (.cells #[.bool true, .string m, .string phi, .int .i64 pr, .slice bp bn bc] 24) = w10 := ⟨_, rfl⟩
            have hb : Below w9.heap.size w9 w10 := by rw [← hw10]; exact ((Below.refl _ _).alloc (Nat.le_refl _) _).alloc (by simp) _
            have HXa : Hid (Bk w10 (w9.heap.size) 24 #[.bool true, .string plo, .string m, .int .i64 id, .slice ap an ac]) := by rw [← hw10]; exact (Bk.new _ _ _).alloc _
            have HXb : Hid (Bk w10 (w9.heap.size + 1) 24 #[.bool true, .string m, .string phi, .int .i64 pr, .slice bp bn bc]) := by rw [← hw10]; exact Bk.new1 _ _ _ _
            have HXp : Hid (Bk w10 (w.heap.size) 24 #[.bool true, .string plo, .string phi, .int .i64 pr, .slice pp pn pc]) := HXp.out.below hb HXp.out.lt
            have HXe : Hid (Bk w10 (w.heap.size + 1) 28 #[.string ek, .int .i64 es, .int .i64 eg, .int .i64 0]) := HXe.out.below hb HXe.out.lt
            have HXq : Hid (Bk w10 (w4.heap.size) 24 #[.bool true, .string plo, .string phi, .int .i64 pr, .slice qp qn qc]) := HXq.out.below hb HXq.out.lt
            have HXrm : Hid (Bk w10 (w7.heap.size) 24 #[.bool false, .string ⟨#[]⟩, .string ⟨#[]⟩, .int .i64 0, .slice rp 0 rc]) := HXrm.out.below hb HXrm.out.lt
            have HEp : Hid (Ens w10 pp (pl)) := HEp.out.below hb (Nat.le_refl _)
            have HEq : Hid (Ens w10 qp (ql)) := HEq.out.below hb (Nat.le_refl _)
            have HEa : Hid (Ens w10 ap (pl.take (i + 1))) := HEa.out.below hb (Nat.le_refl _)
            have HEb : Hid (Ens w10 bp (pl.drop (i + 1))) := HEb.out.below hb (Nat.le_refl _)
            have HBW : Hid (Below w.heap.size w w10) := HBW.out.trans (hb.mono HBW.out.size)
            clear hb
            have a_0 : w10.cell? ⟨w9.heap.size, 0, none⟩ = some (.bool true) := HXa.out.cell 0
            have a_1 : w10.cell? ⟨w9.heap.size, 1, none⟩ = some (.string plo) := HXa.out.cell 1
            have a_2 : w10.cell? ⟨w9.heap.size, 2, none⟩ = some (.string m) := HXa.out.cell 2
            have a_3 : w10.cell? ⟨w9.heap.size, 3, none⟩ = some (.int .i64 id) := HXa.out.cell 3
            have a_4 : w10.cell? ⟨w9.heap.size, 4, none⟩ = some (.slice ap an ac) := HXa.out.cell 4
            have b_0 : w10.cell? ⟨w9.heap.size + 1, 0, none⟩ = some (.bool true) := HXb.out.cell 0
            have b_1 : w10.cell? ⟨w9.heap.size + 1, 1, none⟩ = some (.string m) := HXb.out.cell 1
            have b_2 : w10.cell? ⟨w9.heap.size + 1, 2, none⟩ = some (.string phi) := HXb.out.cell 2
            have b_3 : w10.cell? ⟨w9.heap.size + 1, 3, none⟩ = some (.int .i64 pr) := HXb.out.cell 3
            have b_4 : w10.cell? ⟨w9.heap.size + 1, 4, none⟩ = some (.slice bp bn bc) := HXb.out.cell 4
            go_wp2_with fail
            clear hw10 a_0 a_1 a_2 a_3 a_4 b_0 b_1 b_2 b_3 b_4
            refine (check_any true plo m id ap an ac (pl.take (i + 1)) _ HNa.out HEa.out (by omega)).mono ?_
            rw [HMA.out]
            simp only [if_true]
            rintro x w11 ⟨rfl, hb⟩
            have HXp : Hid (Bk w11 (w.heap.size) 24 #[.bool true, .string plo, .string phi, .int .i64 pr, .slice pp pn pc]) := HXp.out.below hb HXp.out.lt
            have HXe : Hid (Bk w11 (w.heap.size + 1) 28 #[.string ek, .int .i64 es, .int .i64 eg, .int .i64 0]) := HXe.out.below hb HXe.out.lt
            have HXq : Hid (Bk w11 (w4.heap.size) 24 #[.bool true, .string plo, .string phi, .int .i64 pr, .slice qp qn qc]) := HXq.out.below hb HXq.out.lt
            have HXrm : Hid (Bk w11 (w7.heap.size) 24 #[.bool false, .string ⟨#[]⟩, .string ⟨#[]⟩, .int .i64 0, .slice rp 0 rc]) := HXrm.out.below hb HXrm.out.lt
            have HXa : Hid (Bk w11 (w9.heap.size) 24 #[.bool true, .string plo, .string m, .int .i64 id, .slice ap an ac]) := HXa.out.below hb HXa.out.lt
            have HXb : Hid (Bk w11 (w9.heap.size + 1) 24 #[.bool true, .string m, .string phi, .int .i64 pr, .slice bp bn bc]) := HXb.out.below hb HXb.out.lt
            have HEp : Hid (Ens w11 pp (pl)) := HEp.out.below hb (Nat.le_refl _)
            have HEq : Hid (Ens w11 qp (ql)) := HEq.out.below hb (Nat.le_refl _)
            have HEa : Hid (Ens w11 ap (pl.take (i + 1))) := HEa.out.below hb (Nat.le_refl _)
            have HEb : Hid (Ens w11 bp (pl.drop (i + 1))) := HEb.out.below hb (Nat.le_refl _)
            have HBW : Hid (Below w.heap.size w w11) := HBW.out.trans (hb.mono HBW.out.size)
            clear hb
            have a_0 : w11.cell? ⟨w9.heap.size, 0, none⟩ = some (.bool true) := HXa.out.cell 0
            have a_1 : w11.cell? ⟨w9.heap.size, 1, none⟩ = some (.string plo) := HXa.out.cell 1
            have a_2 : w11.cell? ⟨w9.heap.size, 2, none⟩ = some (.string m) := HXa.out.cell 2
            have a_3 : w11.cell? ⟨w9.heap.size, 3, none⟩ = some (.int .i64 id) := HXa.out.cell 3
            have a_4 : w11.cell? ⟨w9.heap.size, 4, none⟩ = some (.slice ap an ac) := HXa.out.cell 4
            have b_0 : w11.cell? ⟨w9.heap.size + 1, 0, none⟩ = some (.bool true) := HXb.out.cell 0
            have b_1 : w11.cell? ⟨w9.heap.size + 1, 1, none⟩ = some (.string m) := HXb.out.cell 1
            have b_2 : w11.cell? ⟨w9.heap.size + 1, 2, none⟩ = some (.string phi) := HXb.out.cell 2
            have b_3 : w11.cell? ⟨w9.heap.size + 1, 3, none⟩ = some (.int .i64 pr) := HXb.out.cell 3
            have b_4 : w11.cell? ⟨w9.heap.size + 1, 4, none⟩ = some (.slice bp bn bc) := HXb.out.cell 4
            go_wp2_with fail
            clear a_0 a_1 a_2 a_3 a_4 b_0 b_1 b_2 b_3 b_4
            refine (check_any true m phi pr bp bn bc (pl.drop (i + 1)) _ HNb.out HEb.out (by omega)).mono ?_
            rw [HMB.out]
            simp only [if_true]
            rintro x w12 ⟨rfl, hb⟩
            have HXp : Hid (Bk w12 (w.heap.size) 24 #[.bool true, .string plo, .string phi, .int .i64 pr, .slice pp pn pc]) := HXp.out.below hb HXp.out.lt
            have HXe : Hid (Bk w12 (w.heap.size + 1) 28 #[.string ek, .int .i64 es, .int .i64 eg, .int .i64 0]) := HXe.out.below hb HXe.out.lt
            have HXq : Hid (Bk w12 (w4.heap.size) 24 #[.bool true, .string plo, .string phi, .int .i64 pr, .slice qp qn qc]) := HXq.out.below hb HXq.out.lt
            have HXrm : Hid (Bk w12 (w7.heap.size) 24 #[.bool false, .string ⟨#[]⟩, .string ⟨#[]⟩, .int .i64 0, .slice rp 0 rc]) := HXrm.out.below hb HXrm.out.lt
            have HXa : Hid (Bk w12 (w9.heap.size) 24 #[.bool true, .string plo, .string m, .int .i64 id, .slice ap an ac]) := HXa.out.below hb HXa.out.lt
            have HXb : Hid (Bk w12 (w9.heap.size + 1) 24 #[.bool true, .string m, .string phi, .int .i64 pr, .slice bp bn bc]) := HXb.out.below hb HXb.out.lt
            have HEp : Hid (Ens w12 pp (pl)) := HEp.out.below hb (Nat.le_refl _)
            have HEq : Hid (Ens w12 qp (ql)) := HEq.out.below hb (Nat.le_refl _)
            have HEa : Hid (Ens w12 ap (pl.take (i + 1))) := HEa.out.below hb (Nat.le_refl _)
            have HEb : Hid (Ens w12 bp (pl.drop (i + 1))) := HEb.out.below hb (Nat.le_refl _)
            have HBW : Hid (Below w.heap.size w w12) := HBW.out.trans (hb.mono HBW.out.size)
            clear hb
            have hidn : (id != id) = false := by simp
            have a_0 : w12.cell? ⟨w9.heap.size, 0, none⟩ = some (.bool true) := HXa.out.cell 0
            have a_1 : w12.cell? ⟨w9.heap.size, 1, none⟩ = some (.string plo) := HXa.out.cell 1
            have a_2 : w12.cell? ⟨w9.heap.size, 2, none⟩ = some (.string m) := HXa.out.cell 2
            have a_3 : w12.cell? ⟨w9.heap.size, 3, none⟩ = some (.int .i64 id) := HXa.out.cell 3
            have a_4 : w12.cell? ⟨w9.heap.size, 4, none⟩ = some (.slice ap an ac) := HXa.out.cell 4
            have b_0 : w12.cell? ⟨w9.heap.size + 1, 0, none⟩ = some (.bool true) := HXb.out.cell 0
            have b_1 : w12.cell? ⟨w9.heap.size + 1, 1, none⟩ = some (.string m) := HXb.out.cell 1
            have b_2 : w12.cell? ⟨w9.heap.size + 1, 2, none⟩ = some (.string phi) := HXb.out.cell 2
            have b_3 : w12.cell? ⟨w9.heap.size + 1, 3, none⟩ = some (.int .i64 pr) := HXb.out.cell 3
            have b_4 : w12.cell? ⟨w9.heap.size + 1, 4, none⟩ = some (.slice bp bn bc) := HXb.out.cell 4
            go_wp2_with fail
            clear a_0 a_1 a_2 a_3 a_4 b_0 b_1 b_2 b_3 b_4
            refine (merge_any ⟨true, plo, m, id, pl.take (i + 1)⟩ ⟨true, m, phi, pr, pl.drop (i + 1)⟩ ap bp an bn ac bc _ HNa.out HNb.out HEa.out HEb.out HLa.out HLb.out (by omega) (by omega)).mono ?_
            rw [HMG.out]
            rintro x w13 ⟨v, rfl, hgm, hb⟩
            have HXp : Hid (Bk w13 (w.heap.size) 24 #[.bool true, .string plo, .string phi, .int .i64 pr, .slice pp pn pc]) := HXp.out.below hb HXp.out.lt
            have HXe : Hid (Bk w13 (w.heap.size + 1) 28 #[.string ek, .int .i64 es, .int .i64 eg, .int .i64 0]) := HXe.out.below hb HXe.out.lt
            have HXq : Hid (Bk w13 (w4.heap.size) 24 #[.bool true, .string plo, .string phi, .int .i64 pr, .slice qp qn qc]) := HXq.out.below hb HXq.out.lt
            have HXrm : Hid (Bk w13 (w7.heap.size) 24 #[.bool false, .string ⟨#[]⟩, .string ⟨#[]⟩, .int .i64 0, .slice rp 0 rc]) := HXrm.out.below hb HXrm.out.lt
            have HXa : Hid (Bk w13 (w9.heap.size) 24 #[.bool true, .string plo, .string m, .int .i64 id, .slice ap an ac]) := HXa.out.below hb HXa.out.lt
            have HXb : Hid (Bk w13 (w9.heap.size + 1) 24 #[.bool true, .string m, .string phi, .int .i64 pr, .slice bp bn bc]) := HXb.out.below hb HXb.out.lt
            have HEp : Hid (Ens w13 pp (pl)) := HEp.out.below hb (Nat.le_refl _)
            have HEq : Hid (Ens w13 qp (ql)) := HEq.out.below hb (Nat.le_refl _)
            have HEa : Hid (Ens w13 ap (pl.take (i + 1))) := HEa.out.below hb (Nat.le_refl _)
            have HEb : Hid (Ens w13 bp (pl.drop (i + 1))) := HEb.out.below hb (Nat.le_refl _)
            have HBW : Hid (Below w.heap.size w w13) := HBW.out.trans (hb.mono HBW.out.size)
            obtain ⟨mf, mlo, mhi, mr, mp, mn, mc, ml, hmq, rfl, hmn, hme, -⟩ := hgm.parts
            simp only [Pp.mk.injEq] at hmq
            obtain ⟨rfl, rfl, rfl, rfl, rfl⟩ := hmq
            obtain rfl : pn = mn := by rw [← HP.out.lenq, ← hmn]
            have HEm : Hid (Ens w13 mp (pl)) := hme
            clear hb hgm hme hmn
            obtain ⟨w14, hw14⟩ : ∃ w14, w13.alloc (.cells #[.bool true, .string plo, .string phi, .int .i64 pr, .slice mp pn mc] 24) = w14 := ⟨_, rfl⟩
            have hb : Below w13.heap.size w13 w14 := by rw [← hw14]; exact (Below.refl _ _).alloc (Nat.le_refl _) _
            have HXm : Hid (Bk w14 w13.heap.size 24 #[.bool true, .string plo, .string phi, .int .i64 pr, .slice mp pn mc]) := by rw [← hw14]; exact Bk.new _ _ _
            have HXp : Hid (Bk w14 (w.heap.size) 24 #[.bool true, .string plo, .string phi, .int .i64 pr, .slice pp pn pc]) := HXp.out.below hb HXp.out.lt
            have HXe : Hid (Bk w14 (w.heap.size + 1) 28 #[.string ek, .int .i64 es, .int .i64 eg, .int .i64 0]) := HXe.out.below hb HXe.out.lt
            have HXq : Hid (Bk w14 (w4.heap.size) 24 #[.bool true, .string plo, .string phi, .int .i64 pr, .slice qp qn qc]) := HXq.out.below hb HXq.out.lt
            have HXrm : Hid (Bk w14 (w7.heap.size) 24 #[.bool false, .string ⟨#[]⟩, .string ⟨#[]⟩, .int .i64 0, .slice rp 0 rc]) := HXrm.out.below hb HXrm.out.lt
            have HXa : Hid (Bk w14 (w9.heap.size) 24 #[.bool true, .string plo, .string m, .int .i64 id, .slice ap an ac]) := HXa.out.below hb HXa.out.lt
            have HXb : Hid (Bk w14 (w9.heap.size + 1) 24 #[.bool true, .string m, .string phi, .int .i64 pr, .slice bp bn bc]) := HXb.out.below hb HXb.out.lt
            have HEp : Hid (Ens w14 pp (pl)) := HEp.out.below hb (Nat.le_refl _)
            have HEq : Hid (Ens w14 qp (ql)) := HEq.out.below hb (Nat.le_refl _)
            have HEa : Hid (Ens w14 ap (pl.take (i + 1))) := HEa.out.below hb (Nat.le_refl _)
            have HEb : Hid (Ens w14 bp (pl.drop (i + 1))) := HEb.out.below hb (Nat.le_refl _)
            have HEm : Hid (Ens w14 mp (pl)) := HEm.out.below hb (Nat.le_refl _)
            have HBW : Hid (Below w.heap.size w w14) := HBW.out.trans (hb.mono HBW.out.size)
            clear hb
            have m_0 : w14.cell? ⟨w13.heap.size, 0, none⟩ = some (.bool true) := HXm.out.cell 0
            have m_1 : w14.cell? ⟨w13.heap.size, 1, none⟩ = some (.string plo) := HXm.out.cell 1
            have m_2 : w14.cell? ⟨w13.heap.size, 2, none⟩ = some (.string phi) := HXm.out.cell 2
            have m_3 : w14.cell? ⟨w13.heap.size, 3, none⟩ = some (.int .i64 pr) := HXm.out.cell 3
            have m_4 : w14.cell? ⟨w13.heap.size, 4, none⟩ = some (.slice mp pn mc) := HXm.out.cell 4
            have p_0 : w14.cell? ⟨w.heap.size, 0, none⟩ = some (.bool true) := HXp.out.cell 0
            have p_1 : w14.cell? ⟨w.heap.size, 1, none⟩ = some (.string plo) := HXp.out.cell 1
            have p_2 : w14.cell? ⟨w.heap.size, 2, none⟩ = some (.string phi) := HXp.out.cell 2
            have p_3 : w14.cell? ⟨w.heap.size, 3, none⟩ = some (.int .i64 pr) := HXp.out.cell 3
            have p_4 : w14.cell? ⟨w.heap.size, 4, none⟩ = some (.slice pp pn pc) := HXp.out.cell 4
            go_wp2_with fail
            clear hw14 m_0 m_1 m_2 m_3 m_4 p_0 p_1 p_2 p_3 p_4
            refine (same_any ⟨true, plo, phi, pr, pl⟩ ⟨true, plo, phi, pr, pl⟩ mp pp pn pn mc pc _ HP.out.lenq HP.out.lenq HEm.out HEp.out (by omega)).mono ?_
            rw [Pg.same_self]
            rintro x w15 ⟨rfl, hb⟩
            have HXp : Hid (Bk w15 (w.heap.size) 24 #[.bool true, .string plo, .string phi, .int .i64 pr, .slice pp pn pc]) := HXp.out.below hb HXp.out.lt
            have HXe : Hid (Bk w15 (w.heap.size + 1) 28 #[.string ek, .int .i64 es, .int .i64 eg, .int .i64 0]) := HXe.out.below hb HXe.out.lt
            have HXq : Hid (Bk w15 (w4.heap.size) 24 #[.bool true, .string plo, .string phi, .int .i64 pr, .slice qp qn qc]) := HXq.out.below hb HXq.out.lt
            have HXrm : Hid (Bk w15 (w7.heap.size) 24 #[.bool false, .string ⟨#[]⟩, .string ⟨#[]⟩, .int .i64 0, .slice rp 0 rc]) := HXrm.out.below hb HXrm.out.lt
            have HXa : Hid (Bk w15 (w9.heap.size) 24 #[.bool true, .string plo, .string m, .int .i64 id, .slice ap an ac]) := HXa.out.below hb HXa.out.lt
            have HXb : Hid (Bk w15 (w9.heap.size + 1) 24 #[.bool true, .string m, .string phi, .int .i64 pr, .slice bp bn bc]) := HXb.out.below hb HXb.out.lt
            have HXm : Hid (Bk w15 (w13.heap.size) 24 #[.bool true, .string plo, .string phi, .int .i64 pr, .slice mp pn mc]) := HXm.out.below hb HXm.out.lt
            have HEp : Hid (Ens w15 pp (pl)) := HEp.out.below hb (Nat.le_refl _)
            have HEq : Hid (Ens w15 qp (ql)) := HEq.out.below hb (Nat.le_refl _)
            have HEa : Hid (Ens w15 ap (pl.take (i + 1))) := HEa.out.below hb (Nat.le_refl _)
            have HEb : Hid (Ens w15 bp (pl.drop (i + 1))) := HEb.out.below hb (Nat.le_refl _)
            have HEm : Hid (Ens w15 mp (pl)) := HEm.out.below hb (Nat.le_refl _)
            have HBW : Hid (Below w.heap.size w w15) := HBW.out.trans (hb.mono HBW.out.size)
            clear hb
            go_wp2
            go_ret
            exact ⟨rfl, HBW.out⟩
          · have hno := Pg.split_no (g := ⟨true, plo, phi, pr, pl⟩) (id := id) HRS.out (by rw [HSP.out]; exact hk)
            have hkn : (k != 0) = true := by simp [hk]
            obtain ⟨w10, hw10⟩ : ∃ w10, (w9.alloc (.cells #[.bool af, .string alo, .string ahi, .int .i64 ar, .slice ap an ac] 24)).alloc (.cells #[.bool bf, .string blo, .string bhi, .int .i64 br, .slice bp bn bc] 24) = w10 := ⟨_, rfl⟩
            have hb : Below w9.heap.size w9 w10 := by rw [← hw10]; exact ((Below.refl _ _).alloc (Nat.le_refl _) _).alloc (by simp) _
            have HXa : Hid (Bk w10 (w9.heap.size) 24 #[.bool af, .string alo, .string ahi, .int .i64 ar, .slice ap an ac]) := by rw [← hw10]; exact (Bk.new _ _ _).alloc _
            have HXb : Hid (Bk w10 (w9.heap.size + 1) 24 #[.bool bf, .string blo, .string bhi, .int .i64 br, .slice bp bn bc]) := by rw [← hw10]; exact Bk.new1 _ _ _ _
            have HXp : Hid (Bk w10 (w.heap.size) 24 #[.bool true, .string plo, .string phi, .int .i64 pr, .slice pp pn pc]) := HXp.out.below hb HXp.out.lt
            have HXe : Hid (Bk w10 (w.heap.size + 1) 28 #[.string ek, .int .i64 es, .int .i64 eg, .int .i64 0]) := HXe.out.below hb HXe.out.lt
            have HXq : Hid (Bk w10 (w4.heap.size) 24 #[.bool true, .string plo, .string phi, .int .i64 pr, .slice qp qn qc]) := HXq.out.below hb HXq.out.lt
            have HXrm : Hid (Bk w10 (w7.heap.size) 24 #[.bool false, .string ⟨#[]⟩, .string ⟨#[]⟩, .int .i64 0, .slice rp 0 rc]) := HXrm.out.below hb HXrm.out.lt
            have HEp : Hid (Ens w10 pp (pl)) := HEp.out.below hb (Nat.le_refl _)
            have HEq : Hid (Ens w10 qp (ql)) := HEq.out.below hb (Nat.le_refl _)
            have HEa : Hid (Ens w10 ap (al)) := HEa.out.below hb (Nat.le_refl _)
            have HEb : Hid (Ens w10 bp (bl)) := HEb.out.below hb (Nat.le_refl _)
            have HBW : Hid (Below w.heap.size w w10) := HBW.out.trans (hb.mono HBW.out.size)
            clear hb
            have p_0 : w10.cell? ⟨w.heap.size, 0, none⟩ = some (.bool true) := HXp.out.cell 0
            have p_1 : w10.cell? ⟨w.heap.size, 1, none⟩ = some (.string plo) := HXp.out.cell 1
            have p_2 : w10.cell? ⟨w.heap.size, 2, none⟩ = some (.string phi) := HXp.out.cell 2
            have p_3 : w10.cell? ⟨w.heap.size, 3, none⟩ = some (.int .i64 pr) := HXp.out.cell 3
            have p_4 : w10.cell? ⟨w.heap.size, 4, none⟩ = some (.slice pp pn pc) := HXp.out.cell 4
            rcases hno with hno | hno
            · have hid2 : decide (id < 1) = true := decide_eq_true hno
              go_wp2
              go_ret
              exact ⟨rfl, HBW.out⟩
            · have hl2 : (pn : Int) < 2 := by have := HP.out.lenq; simp only at hno; omega
              by_cases hid2 : id < 1
              · have hid3 : decide (id < 1) = true := decide_eq_true hid2
                go_wp2
                go_ret
                exact ⟨rfl, HBW.out⟩
              · have hid3 : decide (id < 1) = false := decide_eq_false hid2
                go_wp2
                go_ret
                exact ⟨rfl, HBW.out⟩
        | true =>
          have p_0 : w6.cell? ⟨w.heap.size, 0, none⟩ = some (.bool true) := HXp.out.cell 0
          have p_1 : w6.cell? ⟨w.heap.size, 1, none⟩ = some (.string plo) := HXp.out.cell 1
          have p_2 : w6.cell? ⟨w.heap.size, 2, none⟩ = some (.string phi) := HXp.out.cell 2
          have p_3 : w6.cell? ⟨w.heap.size, 3, none⟩ = some (.int .i64 pr) := HXp.out.cell 3
          have p_4 : w6.cell? ⟨w.heap.size, 4, none⟩ = some (.slice pp pn pc) := HXp.out.cell 4
          have e_0 : w6.cell? ⟨w.heap.size + 1, 0, none⟩ = some (.string ek) := HXe.out.cell 0
          have e_1 : w6.cell? ⟨w.heap.size + 1, 1, none⟩ = some (.int .i64 es) := HXe.out.cell 1
          have e_2 : w6.cell? ⟨w.heap.size + 1, 2, none⟩ = some (.int .i64 eg) := HXe.out.cell 2
          have e_3 : w6.cell? ⟨w.heap.size + 1, 3, none⟩ = some (.int .i64 0) := HXe.out.cell 3
          go_wp2_with fail
          clear p_0 p_1 p_2 p_3 p_4 e_0 e_1 e_2 e_3
          refine (remove_any true plo phi pr pp pn pc pl ek _ HP.out.lenq HEp.out (by omega)).mono ?_
          have hrm : Pg.remove ⟨true, plo, phi, pr, pl⟩ ek = (⟨true, plo, phi, pr, Pg.del pl (pl.findIdx (Pg.is ek))⟩, 0) := by unfold Pg.remove; rw [hany]; rfl
          rw [hrm]
          clear hrm
          obtain ⟨dl, hdl⟩ : ∃ dl, Pg.del pl (pl.findIdx (Pg.is ek)) = dl := ⟨_, rfl⟩
          have HDL : Hid (Pg.del pl (pl.findIdx (Pg.is ek)) = dl) := hdl
          rw [hdl]
          clear hdl
          rintro x w7 ⟨v, rfl, hga, hb⟩
          have HXp : Hid (Bk w7 (w.heap.size) 24 #[.bool true, .string plo, .string phi, .int .i64 pr, .slice pp pn pc]) := HXp.out.below hb HXp.out.lt
          have HXe : Hid (Bk w7 (w.heap.size + 1) 28 #[.string ek, .int .i64 es, .int .i64 eg, .int .i64 0]) := HXe.out.below hb HXe.out.lt
          have HXq : Hid (Bk w7 (w4.heap.size) 24 #[.bool true, .string plo, .string phi, .int .i64 pr, .slice qp qn qc]) := HXq.out.below hb HXq.out.lt
          have HEp : Hid (Ens w7 pp (pl)) := HEp.out.below hb (Nat.le_refl _)
          have HEq : Hid (Ens w7 qp (ql)) := HEq.out.below hb (Nat.le_refl _)
          have HBW : Hid (Below w.heap.size w w7) := HBW.out.trans (hb.mono HBW.out.size)
          obtain ⟨rf, rlo, rhi, rr, rp, rn, rc, rl, hrq, rfl, hrn, hre, -⟩ := hga.parts
          simp only [Pp.mk.injEq] at hrq
          obtain ⟨rfl, rfl, rfl, rfl, rfl⟩ := hrq
          have HNr : Hid (dl.length = rn) := hrn
          have hrb : rn ≤ 3518437208780 := by have h1 := Pg.del_le pl (pl.findIdx (Pg.is ek)); rw [HDL.out] at h1; have h2 := HP.out.lenq; omega
          have HEr : Hid (Ens w7 rp (dl)) := hre
          clear hb hga hrn hre
          obtain ⟨w8, hw8⟩ : ∃ w8, w7.alloc (.cells #[.bool true, .string plo, .string phi, .int .i64 pr, .slice rp rn rc] 24) = w8 := ⟨_, rfl⟩
          have hb : Below w7.heap.size w7 w8 := by rw [← hw8]; exact (Below.refl _ _).alloc (Nat.le_refl _) _
          have HXrm : Hid (Bk w8 w7.heap.size 24 #[.bool true, .string plo, .string phi, .int .i64 pr, .slice rp rn rc]) := by rw [← hw8]; exact Bk.new _ _ _
          have HXp : Hid (Bk w8 (w.heap.size) 24 #[.bool true, .string plo, .string phi, .int .i64 pr, .slice pp pn pc]) := HXp.out.below hb HXp.out.lt
          have HXe : Hid (Bk w8 (w.heap.size + 1) 28 #[.string ek, .int .i64 es, .int .i64 eg, .int .i64 0]) := HXe.out.below hb HXe.out.lt
          have HXq : Hid (Bk w8 (w4.heap.size) 24 #[.bool true, .string plo, .string phi, .int .i64 pr, .slice qp qn qc]) := HXq.out.below hb HXq.out.lt
          have HEp : Hid (Ens w8 pp (pl)) := HEp.out.below hb (Nat.le_refl _)
          have HEq : Hid (Ens w8 qp (ql)) := HEq.out.below hb (Nat.le_refl _)
          have HEr : Hid (Ens w8 rp (dl)) := HEr.out.below hb (Nat.le_refl _)
          have HBW : Hid (Below w.heap.size w w8) := HBW.out.trans (hb.mono HBW.out.size)
          clear hb
          have rm_0 : w8.cell? ⟨w7.heap.size, 0, none⟩ = some (.bool true) := HXrm.out.cell 0
          have rm_1 : w8.cell? ⟨w7.heap.size, 1, none⟩ = some (.string plo) := HXrm.out.cell 1
          have rm_2 : w8.cell? ⟨w7.heap.size, 2, none⟩ = some (.string phi) := HXrm.out.cell 2
          have rm_3 : w8.cell? ⟨w7.heap.size, 3, none⟩ = some (.int .i64 pr) := HXrm.out.cell 3
          have rm_4 : w8.cell? ⟨w7.heap.size, 4, none⟩ = some (.slice rp rn rc) := HXrm.out.cell 4
          have p_0 : w8.cell? ⟨w.heap.size, 0, none⟩ = some (.bool true) := HXp.out.cell 0
          have p_1 : w8.cell? ⟨w.heap.size, 1, none⟩ = some (.string plo) := HXp.out.cell 1
          have p_2 : w8.cell? ⟨w.heap.size, 2, none⟩ = some (.string phi) := HXp.out.cell 2
          have p_3 : w8.cell? ⟨w.heap.size, 3, none⟩ = some (.int .i64 pr) := HXp.out.cell 3
          have p_4 : w8.cell? ⟨w.heap.size, 4, none⟩ = some (.slice pp pn pc) := HXp.out.cell 4
          have e_0 : w8.cell? ⟨w.heap.size + 1, 0, none⟩ = some (.string ek) := HXe.out.cell 0
          have e_1 : w8.cell? ⟨w.heap.size + 1, 1, none⟩ = some (.int .i64 es) := HXe.out.cell 1
          have e_2 : w8.cell? ⟨w.heap.size + 1, 2, none⟩ = some (.int .i64 eg) := HXe.out.cell 2
          have e_3 : w8.cell? ⟨w.heap.size + 1, 3, none⟩ = some (.int .i64 0) := HXe.out.cell 3
          go_wp2_with fail
          clear hw8 rm_0 rm_1 rm_2 rm_3 rm_4 p_0 p_1 p_2 p_3 p_4 e_0 e_1 e_2 e_3
          refine (check_any true plo phi pr rp rn rc dl _ HNr.out HEr.out (by omega)).mono ?_
          rw [show Pg.may true ⟨plo, phi⟩ pr dl = true by rw [← HDL.out]; exact Pg.may_del HMAY.out (.inl rfl)]
          simp only [if_true]
          rintro x w9 ⟨rfl, hb⟩
          have HXp : Hid (Bk w9 (w.heap.size) 24 #[.bool true, .string plo, .string phi, .int .i64 pr, .slice pp pn pc]) := HXp.out.below hb HXp.out.lt
          have HXe : Hid (Bk w9 (w.heap.size + 1) 28 #[.string ek, .int .i64 es, .int .i64 eg, .int .i64 0]) := HXe.out.below hb HXe.out.lt
          have HXq : Hid (Bk w9 (w4.heap.size) 24 #[.bool true, .string plo, .string phi, .int .i64 pr, .slice qp qn qc]) := HXq.out.below hb HXq.out.lt
          have HXrm : Hid (Bk w9 (w7.heap.size) 24 #[.bool true, .string plo, .string phi, .int .i64 pr, .slice rp rn rc]) := HXrm.out.below hb HXrm.out.lt
          have HEp : Hid (Ens w9 pp (pl)) := HEp.out.below hb (Nat.le_refl _)
          have HEq : Hid (Ens w9 qp (ql)) := HEq.out.below hb (Nat.le_refl _)
          have HEr : Hid (Ens w9 rp (dl)) := HEr.out.below hb (Nat.le_refl _)
          have HBW : Hid (Below w.heap.size w w9) := HBW.out.trans (hb.mono HBW.out.size)
          clear hb
          have p_0 : w9.cell? ⟨w.heap.size, 0, none⟩ = some (.bool true) := HXp.out.cell 0
          have p_1 : w9.cell? ⟨w.heap.size, 1, none⟩ = some (.string plo) := HXp.out.cell 1
          have p_2 : w9.cell? ⟨w.heap.size, 2, none⟩ = some (.string phi) := HXp.out.cell 2
          have p_3 : w9.cell? ⟨w.heap.size, 3, none⟩ = some (.int .i64 pr) := HXp.out.cell 3
          have p_4 : w9.cell? ⟨w.heap.size, 4, none⟩ = some (.slice pp pn pc) := HXp.out.cell 4
          go_wp2_with fail
          clear p_0 p_1 p_2 p_3 p_4
          refine (split_any true plo phi pr pp pn pc pl id _ HP.out.lenq HEp.out (by omega) HP.out.keys).mono ?_
          obtain ⟨⟨ga, gb, k⟩, hsp⟩ : ∃ o, Pg.split ⟨true, plo, phi, pr, pl⟩ id = o := ⟨_, rfl⟩
          rw [hsp]
          rintro x w10 ⟨v1, v2, rfl, hga, hgb, hb⟩
          have HXp : Hid (Bk w10 (w.heap.size) 24 #[.bool true, .string plo, .string phi, .int .i64 pr, .slice pp pn pc]) := HXp.out.below hb HXp.out.lt
          have HXe : Hid (Bk w10 (w.heap.size + 1) 28 #[.string ek, .int .i64 es, .int .i64 eg, .int .i64 0]) := HXe.out.below hb HXe.out.lt
          have HXq : Hid (Bk w10 (w4.heap.size) 24 #[.bool true, .string plo, .string phi, .int .i64 pr, .slice qp qn qc]) := HXq.out.below hb HXq.out.lt
          have HXrm : Hid (Bk w10 (w7.heap.size) 24 #[.bool true, .string plo, .string phi, .int .i64 pr, .slice rp rn rc]) := HXrm.out.below hb HXrm.out.lt
          have HEp : Hid (Ens w10 pp (pl)) := HEp.out.below hb (Nat.le_refl _)
          have HEq : Hid (Ens w10 qp (ql)) := HEq.out.below hb (Nat.le_refl _)
          have HEr : Hid (Ens w10 rp (dl)) := HEr.out.below hb (Nat.le_refl _)
          have HBW : Hid (Below w.heap.size w w10) := HBW.out.trans (hb.mono HBW.out.size)
          obtain ⟨af, alo, ahi, ar, ap, an, ac, al, rfl, rfl, han, hae, hnla⟩ := hga.parts
          obtain ⟨bf, blo, bhi, br, bp, bn, bc, bl, rfl, rfl, hbn, hbe, hnlb⟩ := hgb.parts
          have HSP : Hid (Pg.split ⟨true, plo, phi, pr, pl⟩ id = (⟨af, alo, ahi, ar, al⟩, ⟨bf, blo, bhi, br, bl⟩, k)) := hsp
          have HEa : Hid (Ens w10 ap (al)) := hae
          have HEb : Hid (Ens w10 bp (bl)) := hbe
          have HNa : Hid (al.length = an) := han
          have HNb : Hid (bl.length = bn) := hbn
          have HLa : Hid (ap = none → an = 0 ∧ ac = 0) := hnla
          have HLb : Hid (bp = none → bn = 0 ∧ bc = 0) := hnlb
          clear hsp hga hgb hb hae hbe han hbn hnla hnlb
          by_cases hk : k = 0
          · subst hk
            obtain ⟨i, m, x, y, hil, hid1, hgx, hgy, hpt, hse⟩ := Pg.split_ok (g := ⟨true, plo, phi, pr, pl⟩) (id := id) (by rw [HSP.out])
            rw [HSP.out] at hse
            simp only [Prod.mk.injEq, Pp.mk.injEq, and_true] at hse
            obtain ⟨⟨u1, u2, u3, u4, u5⟩, ⟨u6, u7, u8, u9, u0⟩⟩ := hse
            obtain rfl := u1.symm
            obtain rfl := u2.symm
            obtain rfl := u3.symm
            obtain rfl := u4.symm
            obtain rfl := u5.symm
            obtain rfl := u6.symm
            obtain rfl := u7.symm
            obtain rfl := u8.symm
            obtain rfl := u9.symm
            obtain rfl := u0.symm
            simp only at hil hgx hgy hpt
            have hms := Pg.may_split HMAY.out hid1 hgx hgy hpt
            have HMA : Hid (Pg.may true ⟨plo, m⟩ id (pl.take (i + 1)) = true) := hms.1
            have HMB : Hid (Pg.may true ⟨m, phi⟩ pr (pl.drop (i + 1)) = true) := hms.2
            have HMG : Hid (Pg.merge ⟨true, plo, m, id, pl.take (i + 1)⟩ ⟨true, m, phi, pr, pl.drop (i + 1)⟩ = (⟨true, plo, phi, pr, pl⟩, 0)) := Pg.merge_back (Pg.part_facts hpt (HRS.out i x y hgx hgy)).2.2
            have hbA : an ≤ 3518437208780 := by have h1 := HNa.out; have h2 := HP.out.lenq; rw [List.length_take] at h1; omega
            have hbB : bn ≤ 3518437208780 := by have h1 := HNb.out; have h2 := HP.out.lenq; rw [List.length_drop] at h1; omega
            have hbS : an + bn = pn := by have h1 := HNa.out; have h2 := HP.out.lenq; have h3 := HNb.out; rw [List.length_take] at h1; rw [List.length_drop] at h3; omega
            clear hil hid1 hgx hgy hpt hms HSP
            obtain ⟨w11, hw11⟩ : ∃ w11, (w10.alloc (.cells #[.bool true, .string plo, .string m, .int .i64 id, .slice ap an ac] 24)).alloc (.cells #[.bool true, .string m, .string phi, .int .i64 pr, .slice bp bn bc] 24) = w11 := ⟨_, rfl⟩
            have hb : Below w10.heap.size w10 w11 := by rw [← hw11]; exact ((Below.refl _ _).alloc (Nat.le_refl _) _).alloc (by simp) _
            have HXa : Hid (Bk w11 (w10.heap.size) 24 #[.bool true, .string plo, .string m, .int .i64 id, .slice ap an ac]) := by rw [← hw11]; exact (Bk.new _ _ _).alloc _
            have HXb : Hid (Bk w11 (w10.heap.size + 1) 24 #[.bool true, .string m, .string phi, .int .i64 pr, .slice bp bn bc]) := by rw [← hw11]; exact Bk.new1 _ _ _ _
            have HXp : Hid (Bk w11 (w.heap.size) 24 #[.bool true, .string plo, .string phi, .int .i64 pr, .slice pp pn pc]) := HXp.out.below hb HXp.out.lt
            have HXe : Hid (Bk w11 (w.heap.size + 1) 28 #[.string ek, .int .i64 es, .int .i64 eg, .int .i64 0]) := HXe.out.below hb HXe.out.lt
            have HXq : Hid (Bk w11 (w4.heap.size) 24 #[.bool true, .string plo, .string phi, .int .i64 pr, .slice qp qn qc]) := HXq.out.below hb HXq.out.lt
            have HXrm : Hid (Bk w11 (w7.heap.size) 24 #[.bool true, .string plo, .string phi, .int .i64 pr, .slice rp rn rc]) := HXrm.out.below hb HXrm.out.lt
            have HEp : Hid (Ens w11 pp (pl)) := HEp.out.below hb (Nat.le_refl _)
            have HEq : Hid (Ens w11 qp (ql)) := HEq.out.below hb (Nat.le_refl _)
            have HEr : Hid (Ens w11 rp (dl)) := HEr.out.below hb (Nat.le_refl _)
            have HEa : Hid (Ens w11 ap (pl.take (i + 1))) := HEa.out.below hb (Nat.le_refl _)
            have HEb : Hid (Ens w11 bp (pl.drop (i + 1))) := HEb.out.below hb (Nat.le_refl _)
            have HBW : Hid (Below w.heap.size w w11) := HBW.out.trans (hb.mono HBW.out.size)
            clear hb
            have a_0 : w11.cell? ⟨w10.heap.size, 0, none⟩ = some (.bool true) := HXa.out.cell 0
            have a_1 : w11.cell? ⟨w10.heap.size, 1, none⟩ = some (.string plo) := HXa.out.cell 1
            have a_2 : w11.cell? ⟨w10.heap.size, 2, none⟩ = some (.string m) := HXa.out.cell 2
            have a_3 : w11.cell? ⟨w10.heap.size, 3, none⟩ = some (.int .i64 id) := HXa.out.cell 3
            have a_4 : w11.cell? ⟨w10.heap.size, 4, none⟩ = some (.slice ap an ac) := HXa.out.cell 4
            have b_0 : w11.cell? ⟨w10.heap.size + 1, 0, none⟩ = some (.bool true) := HXb.out.cell 0
            have b_1 : w11.cell? ⟨w10.heap.size + 1, 1, none⟩ = some (.string m) := HXb.out.cell 1
            have b_2 : w11.cell? ⟨w10.heap.size + 1, 2, none⟩ = some (.string phi) := HXb.out.cell 2
            have b_3 : w11.cell? ⟨w10.heap.size + 1, 3, none⟩ = some (.int .i64 pr) := HXb.out.cell 3
            have b_4 : w11.cell? ⟨w10.heap.size + 1, 4, none⟩ = some (.slice bp bn bc) := HXb.out.cell 4
            go_wp2_with fail
            clear hw11 a_0 a_1 a_2 a_3 a_4 b_0 b_1 b_2 b_3 b_4
            refine (check_any true plo m id ap an ac (pl.take (i + 1)) _ HNa.out HEa.out (by omega)).mono ?_
            rw [HMA.out]
            simp only [if_true]
            rintro x w12 ⟨rfl, hb⟩
            have HXp : Hid (Bk w12 (w.heap.size) 24 #[.bool true, .string plo, .string phi, .int .i64 pr, .slice pp pn pc]) := HXp.out.below hb HXp.out.lt
            have HXe : Hid (Bk w12 (w.heap.size + 1) 28 #[.string ek, .int .i64 es, .int .i64 eg, .int .i64 0]) := HXe.out.below hb HXe.out.lt
            have HXq : Hid (Bk w12 (w4.heap.size) 24 #[.bool true, .string plo, .string phi, .int .i64 pr, .slice qp qn qc]) := HXq.out.below hb HXq.out.lt
            have HXrm : Hid (Bk w12 (w7.heap.size) 24 #[.bool true, .string plo, .string phi, .int .i64 pr, .slice rp rn rc]) := HXrm.out.below hb HXrm.out.lt
            have HXa : Hid (Bk w12 (w10.heap.size) 24 #[.bool true, .string plo, .string m, .int .i64 id, .slice ap an ac]) := HXa.out.below hb HXa.out.lt
            have HXb : Hid (Bk w12 (w10.heap.size + 1) 24 #[.bool true, .string m, .string phi, .int .i64 pr, .slice bp bn bc]) := HXb.out.below hb HXb.out.lt
            have HEp : Hid (Ens w12 pp (pl)) := HEp.out.below hb (Nat.le_refl _)
            have HEq : Hid (Ens w12 qp (ql)) := HEq.out.below hb (Nat.le_refl _)
            have HEr : Hid (Ens w12 rp (dl)) := HEr.out.below hb (Nat.le_refl _)
            have HEa : Hid (Ens w12 ap (pl.take (i + 1))) := HEa.out.below hb (Nat.le_refl _)
            have HEb : Hid (Ens w12 bp (pl.drop (i + 1))) := HEb.out.below hb (Nat.le_refl _)
            have HBW : Hid (Below w.heap.size w w12) := HBW.out.trans (hb.mono HBW.out.size)
            clear hb
            have a_0 : w12.cell? ⟨w10.heap.size, 0, none⟩ = some (.bool true) := HXa.out.cell 0
            have a_1 : w12.cell? ⟨w10.heap.size, 1, none⟩ = some (.string plo) := HXa.out.cell 1
            have a_2 : w12.cell? ⟨w10.heap.size, 2, none⟩ = some (.string m) := HXa.out.cell 2
            have a_3 : w12.cell? ⟨w10.heap.size, 3, none⟩ = some (.int .i64 id) := HXa.out.cell 3
            have a_4 : w12.cell? ⟨w10.heap.size, 4, none⟩ = some (.slice ap an ac) := HXa.out.cell 4
            have b_0 : w12.cell? ⟨w10.heap.size + 1, 0, none⟩ = some (.bool true) := HXb.out.cell 0
            have b_1 : w12.cell? ⟨w10.heap.size + 1, 1, none⟩ = some (.string m) := HXb.out.cell 1
            have b_2 : w12.cell? ⟨w10.heap.size + 1, 2, none⟩ = some (.string phi) := HXb.out.cell 2
            have b_3 : w12.cell? ⟨w10.heap.size + 1, 3, none⟩ = some (.int .i64 pr) := HXb.out.cell 3
            have b_4 : w12.cell? ⟨w10.heap.size + 1, 4, none⟩ = some (.slice bp bn bc) := HXb.out.cell 4
            go_wp2_with fail
            clear a_0 a_1 a_2 a_3 a_4 b_0 b_1 b_2 b_3 b_4
            refine (check_any true m phi pr bp bn bc (pl.drop (i + 1)) _ HNb.out HEb.out (by omega)).mono ?_
            rw [HMB.out]
            simp only [if_true]
            rintro x w13 ⟨rfl, hb⟩
            have HXp : Hid (Bk w13 (w.heap.size) 24 #[.bool true, .string plo, .string phi, .int .i64 pr, .slice pp pn pc]) := HXp.out.below hb HXp.out.lt
            have HXe : Hid (Bk w13 (w.heap.size + 1) 28 #[.string ek, .int .i64 es, .int .i64 eg, .int .i64 0]) := HXe.out.below hb HXe.out.lt
            have HXq : Hid (Bk w13 (w4.heap.size) 24 #[.bool true, .string plo, .string phi, .int .i64 pr, .slice qp qn qc]) := HXq.out.below hb HXq.out.lt
            have HXrm : Hid (Bk w13 (w7.heap.size) 24 #[.bool true, .string plo, .string phi, .int .i64 pr, .slice rp rn rc]) := HXrm.out.below hb HXrm.out.lt
            have HXa : Hid (Bk w13 (w10.heap.size) 24 #[.bool true, .string plo, .string m, .int .i64 id, .slice ap an ac]) := HXa.out.below hb HXa.out.lt
            have HXb : Hid (Bk w13 (w10.heap.size + 1) 24 #[.bool true, .string m, .string phi, .int .i64 pr, .slice bp bn bc]) := HXb.out.below hb HXb.out.lt
            have HEp : Hid (Ens w13 pp (pl)) := HEp.out.below hb (Nat.le_refl _)
            have HEq : Hid (Ens w13 qp (ql)) := HEq.out.below hb (Nat.le_refl _)
            have HEr : Hid (Ens w13 rp (dl)) := HEr.out.below hb (Nat.le_refl _)
            have HEa : Hid (Ens w13 ap (pl.take (i + 1))) := HEa.out.below hb (Nat.le_refl _)
            have HEb : Hid (Ens w13 bp (pl.drop (i + 1))) := HEb.out.below hb (Nat.le_refl _)
            have HBW : Hid (Below w.heap.size w w13) := HBW.out.trans (hb.mono HBW.out.size)
            clear hb
            have hidn : (id != id) = false := by simp
            have a_0 : w13.cell? ⟨w10.heap.size, 0, none⟩ = some (.bool true) := HXa.out.cell 0
            have a_1 : w13.cell? ⟨w10.heap.size, 1, none⟩ = some (.string plo) := HXa.out.cell 1
            have a_2 : w13.cell? ⟨w10.heap.size, 2, none⟩ = some (.string m) := HXa.out.cell 2
            have a_3 : w13.cell? ⟨w10.heap.size, 3, none⟩ = some (.int .i64 id) := HXa.out.cell 3
            have a_4 : w13.cell? ⟨w10.heap.size, 4, none⟩ = some (.slice ap an ac) := HXa.out.cell 4
            have b_0 : w13.cell? ⟨w10.heap.size + 1, 0, none⟩ = some (.bool true) := HXb.out.cell 0
            have b_1 : w13.cell? ⟨w10.heap.size + 1, 1, none⟩ = some (.string m) := HXb.out.cell 1
            have b_2 : w13.cell? ⟨w10.heap.size + 1, 2, none⟩ = some (.string phi) := HXb.out.cell 2
            have b_3 : w13.cell? ⟨w10.heap.size + 1, 3, none⟩ = some (.int .i64 pr) := HXb.out.cell 3
            have b_4 : w13.cell? ⟨w10.heap.size + 1, 4, none⟩ = some (.slice bp bn bc) := HXb.out.cell 4
            go_wp2_with fail
            clear a_0 a_1 a_2 a_3 a_4 b_0 b_1 b_2 b_3 b_4
            refine (merge_any ⟨true, plo, m, id, pl.take (i + 1)⟩ ⟨true, m, phi, pr, pl.drop (i + 1)⟩ ap bp an bn ac bc _ HNa.out HNb.out HEa.out HEb.out HLa.out HLb.out (by omega) (by omega)).mono ?_
            rw [HMG.out]
            rintro x w14 ⟨v, rfl, hgm, hb⟩
            have HXp : Hid (Bk w14 (w.heap.size) 24 #[.bool true, .string plo, .string phi, .int .i64 pr, .slice pp pn pc]) := HXp.out.below hb HXp.out.lt
            have HXe : Hid (Bk w14 (w.heap.size + 1) 28 #[.string ek, .int .i64 es, .int .i64 eg, .int .i64 0]) := HXe.out.below hb HXe.out.lt
            have HXq : Hid (Bk w14 (w4.heap.size) 24 #[.bool true, .string plo, .string phi, .int .i64 pr, .slice qp qn qc]) := HXq.out.below hb HXq.out.lt
            have HXrm : Hid (Bk w14 (w7.heap.size) 24 #[.bool true, .string plo, .string phi, .int .i64 pr, .slice rp rn rc]) := HXrm.out.below hb HXrm.out.lt
            have HXa : Hid (Bk w14 (w10.heap.size) 24 #[.bool true, .string plo, .string m, .int .i64 id, .slice ap an ac]) := HXa.out.below hb HXa.out.lt
            have HXb : Hid (Bk w14 (w10.heap.size + 1) 24 #[.bool true, .string m, .string phi, .int .i64 pr, .slice bp bn bc]) := HXb.out.below hb HXb.out.lt
            have HEp : Hid (Ens w14 pp (pl)) := HEp.out.below hb (Nat.le_refl _)
            have HEq : Hid (Ens w14 qp (ql)) := HEq.out.below hb (Nat.le_refl _)
            have HEr : Hid (Ens w14 rp (dl)) := HEr.out.below hb (Nat.le_refl _)
            have HEa : Hid (Ens w14 ap (pl.take (i + 1))) := HEa.out.below hb (Nat.le_refl _)
            have HEb : Hid (Ens w14 bp (pl.drop (i + 1))) := HEb.out.below hb (Nat.le_refl _)
            have HBW : Hid (Below w.heap.size w w14) := HBW.out.trans (hb.mono HBW.out.size)
            obtain ⟨mf, mlo, mhi, mr, mp, mn, mc, ml, hmq, rfl, hmn, hme, -⟩ := hgm.parts
            simp only [Pp.mk.injEq] at hmq
            obtain ⟨rfl, rfl, rfl, rfl, rfl⟩ := hmq
            obtain rfl : pn = mn := by rw [← HP.out.lenq, ← hmn]
            have HEm : Hid (Ens w14 mp (pl)) := hme
            clear hb hgm hme hmn
            obtain ⟨w15, hw15⟩ : ∃ w15, w14.alloc (.cells #[.bool true, .string plo, .string phi, .int .i64 pr, .slice mp pn mc] 24) = w15 := ⟨_, rfl⟩
            have hb : Below w14.heap.size w14 w15 := by rw [← hw15]; exact (Below.refl _ _).alloc (Nat.le_refl _) _
            have HXm : Hid (Bk w15 w14.heap.size 24 #[.bool true, .string plo, .string phi, .int .i64 pr, .slice mp pn mc]) := by rw [← hw15]; exact Bk.new _ _ _
            have HXp : Hid (Bk w15 (w.heap.size) 24 #[.bool true, .string plo, .string phi, .int .i64 pr, .slice pp pn pc]) := HXp.out.below hb HXp.out.lt
            have HXe : Hid (Bk w15 (w.heap.size + 1) 28 #[.string ek, .int .i64 es, .int .i64 eg, .int .i64 0]) := HXe.out.below hb HXe.out.lt
            have HXq : Hid (Bk w15 (w4.heap.size) 24 #[.bool true, .string plo, .string phi, .int .i64 pr, .slice qp qn qc]) := HXq.out.below hb HXq.out.lt
            have HXrm : Hid (Bk w15 (w7.heap.size) 24 #[.bool true, .string plo, .string phi, .int .i64 pr, .slice rp rn rc]) := HXrm.out.below hb HXrm.out.lt
            have HXa : Hid (Bk w15 (w10.heap.size) 24 #[.bool true, .string plo, .string m, .int .i64 id, .slice ap an ac]) := HXa.out.below hb HXa.out.lt
            have HXb : Hid (Bk w15 (w10.heap.size + 1) 24 #[.bool true, .string m, .string phi, .int .i64 pr, .slice bp bn bc]) := HXb.out.below hb HXb.out.lt
            have HEp : Hid (Ens w15 pp (pl)) := HEp.out.below hb (Nat.le_refl _)
            have HEq : Hid (Ens w15 qp (ql)) := HEq.out.below hb (Nat.le_refl _)
            have HEr : Hid (Ens w15 rp (dl)) := HEr.out.below hb (Nat.le_refl _)
            have HEa : Hid (Ens w15 ap (pl.take (i + 1))) := HEa.out.below hb (Nat.le_refl _)
            have HEb : Hid (Ens w15 bp (pl.drop (i + 1))) := HEb.out.below hb (Nat.le_refl _)
            have HEm : Hid (Ens w15 mp (pl)) := HEm.out.below hb (Nat.le_refl _)
            have HBW : Hid (Below w.heap.size w w15) := HBW.out.trans (hb.mono HBW.out.size)
            clear hb
            have m_0 : w15.cell? ⟨w14.heap.size, 0, none⟩ = some (.bool true) := HXm.out.cell 0
            have m_1 : w15.cell? ⟨w14.heap.size, 1, none⟩ = some (.string plo) := HXm.out.cell 1
            have m_2 : w15.cell? ⟨w14.heap.size, 2, none⟩ = some (.string phi) := HXm.out.cell 2
            have m_3 : w15.cell? ⟨w14.heap.size, 3, none⟩ = some (.int .i64 pr) := HXm.out.cell 3
            have m_4 : w15.cell? ⟨w14.heap.size, 4, none⟩ = some (.slice mp pn mc) := HXm.out.cell 4
            have p_0 : w15.cell? ⟨w.heap.size, 0, none⟩ = some (.bool true) := HXp.out.cell 0
            have p_1 : w15.cell? ⟨w.heap.size, 1, none⟩ = some (.string plo) := HXp.out.cell 1
            have p_2 : w15.cell? ⟨w.heap.size, 2, none⟩ = some (.string phi) := HXp.out.cell 2
            have p_3 : w15.cell? ⟨w.heap.size, 3, none⟩ = some (.int .i64 pr) := HXp.out.cell 3
            have p_4 : w15.cell? ⟨w.heap.size, 4, none⟩ = some (.slice pp pn pc) := HXp.out.cell 4
            go_wp2_with fail
            clear hw15 m_0 m_1 m_2 m_3 m_4 p_0 p_1 p_2 p_3 p_4
            refine (same_any ⟨true, plo, phi, pr, pl⟩ ⟨true, plo, phi, pr, pl⟩ mp pp pn pn mc pc _ HP.out.lenq HP.out.lenq HEm.out HEp.out (by omega)).mono ?_
            rw [Pg.same_self]
            rintro x w16 ⟨rfl, hb⟩
            have HXp : Hid (Bk w16 (w.heap.size) 24 #[.bool true, .string plo, .string phi, .int .i64 pr, .slice pp pn pc]) := HXp.out.below hb HXp.out.lt
            have HXe : Hid (Bk w16 (w.heap.size + 1) 28 #[.string ek, .int .i64 es, .int .i64 eg, .int .i64 0]) := HXe.out.below hb HXe.out.lt
            have HXq : Hid (Bk w16 (w4.heap.size) 24 #[.bool true, .string plo, .string phi, .int .i64 pr, .slice qp qn qc]) := HXq.out.below hb HXq.out.lt
            have HXrm : Hid (Bk w16 (w7.heap.size) 24 #[.bool true, .string plo, .string phi, .int .i64 pr, .slice rp rn rc]) := HXrm.out.below hb HXrm.out.lt
            have HXa : Hid (Bk w16 (w10.heap.size) 24 #[.bool true, .string plo, .string m, .int .i64 id, .slice ap an ac]) := HXa.out.below hb HXa.out.lt
            have HXb : Hid (Bk w16 (w10.heap.size + 1) 24 #[.bool true, .string m, .string phi, .int .i64 pr, .slice bp bn bc]) := HXb.out.below hb HXb.out.lt
            have HXm : Hid (Bk w16 (w14.heap.size) 24 #[.bool true, .string plo, .string phi, .int .i64 pr, .slice mp pn mc]) := HXm.out.below hb HXm.out.lt
            have HEp : Hid (Ens w16 pp (pl)) := HEp.out.below hb (Nat.le_refl _)
            have HEq : Hid (Ens w16 qp (ql)) := HEq.out.below hb (Nat.le_refl _)
            have HEr : Hid (Ens w16 rp (dl)) := HEr.out.below hb (Nat.le_refl _)
            have HEa : Hid (Ens w16 ap (pl.take (i + 1))) := HEa.out.below hb (Nat.le_refl _)
            have HEb : Hid (Ens w16 bp (pl.drop (i + 1))) := HEb.out.below hb (Nat.le_refl _)
            have HEm : Hid (Ens w16 mp (pl)) := HEm.out.below hb (Nat.le_refl _)
            have HBW : Hid (Below w.heap.size w w16) := HBW.out.trans (hb.mono HBW.out.size)
            clear hb
            go_wp2
            go_ret
            exact ⟨rfl, HBW.out⟩
          · have hno := Pg.split_no (g := ⟨true, plo, phi, pr, pl⟩) (id := id) HRS.out (by rw [HSP.out]; exact hk)
            have hkn : (k != 0) = true := by simp [hk]
            obtain ⟨w11, hw11⟩ : ∃ w11, (w10.alloc (.cells #[.bool af, .string alo, .string ahi, .int .i64 ar, .slice ap an ac] 24)).alloc (.cells #[.bool bf, .string blo, .string bhi, .int .i64 br, .slice bp bn bc] 24) = w11 := ⟨_, rfl⟩
            have hb : Below w10.heap.size w10 w11 := by rw [← hw11]; exact ((Below.refl _ _).alloc (Nat.le_refl _) _).alloc (by simp) _
            have HXa : Hid (Bk w11 (w10.heap.size) 24 #[.bool af, .string alo, .string ahi, .int .i64 ar, .slice ap an ac]) := by rw [← hw11]; exact (Bk.new _ _ _).alloc _
            have HXb : Hid (Bk w11 (w10.heap.size + 1) 24 #[.bool bf, .string blo, .string bhi, .int .i64 br, .slice bp bn bc]) := by rw [← hw11]; exact Bk.new1 _ _ _ _
            have HXp : Hid (Bk w11 (w.heap.size) 24 #[.bool true, .string plo, .string phi, .int .i64 pr, .slice pp pn pc]) := HXp.out.below hb HXp.out.lt
            have HXe : Hid (Bk w11 (w.heap.size + 1) 28 #[.string ek, .int .i64 es, .int .i64 eg, .int .i64 0]) := HXe.out.below hb HXe.out.lt
            have HXq : Hid (Bk w11 (w4.heap.size) 24 #[.bool true, .string plo, .string phi, .int .i64 pr, .slice qp qn qc]) := HXq.out.below hb HXq.out.lt
            have HXrm : Hid (Bk w11 (w7.heap.size) 24 #[.bool true, .string plo, .string phi, .int .i64 pr, .slice rp rn rc]) := HXrm.out.below hb HXrm.out.lt
            have HEp : Hid (Ens w11 pp (pl)) := HEp.out.below hb (Nat.le_refl _)
            have HEq : Hid (Ens w11 qp (ql)) := HEq.out.below hb (Nat.le_refl _)
            have HEr : Hid (Ens w11 rp (dl)) := HEr.out.below hb (Nat.le_refl _)
            have HEa : Hid (Ens w11 ap (al)) := HEa.out.below hb (Nat.le_refl _)
            have HEb : Hid (Ens w11 bp (bl)) := HEb.out.below hb (Nat.le_refl _)
            have HBW : Hid (Below w.heap.size w w11) := HBW.out.trans (hb.mono HBW.out.size)
            clear hb
            have p_0 : w11.cell? ⟨w.heap.size, 0, none⟩ = some (.bool true) := HXp.out.cell 0
            have p_1 : w11.cell? ⟨w.heap.size, 1, none⟩ = some (.string plo) := HXp.out.cell 1
            have p_2 : w11.cell? ⟨w.heap.size, 2, none⟩ = some (.string phi) := HXp.out.cell 2
            have p_3 : w11.cell? ⟨w.heap.size, 3, none⟩ = some (.int .i64 pr) := HXp.out.cell 3
            have p_4 : w11.cell? ⟨w.heap.size, 4, none⟩ = some (.slice pp pn pc) := HXp.out.cell 4
            rcases hno with hno | hno
            · have hid2 : decide (id < 1) = true := decide_eq_true hno
              go_wp2
              go_ret
              exact ⟨rfl, HBW.out⟩
            · have hl2 : (pn : Int) < 2 := by have := HP.out.lenq; simp only at hno; omega
              by_cases hid2 : id < 1
              · have hid3 : decide (id < 1) = true := decide_eq_true hid2
                go_wp2
                go_ret
                exact ⟨rfl, HBW.out⟩
              · have hid3 : decide (id < 1) = false := decide_eq_false hid2
                go_wp2
                go_ret
                exact ⟨rfl, HBW.out⟩
    | false =>
      obtain ⟨w0, hw0⟩ : ∃ w0, (w.alloc (.cells #[.bool false, .string plo, .string phi, .int .i64 pr, .slice pp pn pc] 24)).alloc (.cells #[.string ek, .int .i64 es, .int .i64 eg, .int .i64 ec] 28) = w0 := ⟨_, rfl⟩
      have HBW : Hid (Below w.heap.size w w0) := by rw [← hw0]; exact ((Below.refl _ _).alloc (Nat.le_refl _) _).alloc (by simp) _
      have HXp : Hid (Bk w0 (w.heap.size) 24 #[.bool false, .string plo, .string phi, .int .i64 pr, .slice pp pn pc]) := by rw [← hw0]; exact (Bk.new _ _ _).alloc _
      have HXe : Hid (Bk w0 (w.heap.size + 1) 28 #[.string ek, .int .i64 es, .int .i64 eg, .int .i64 ec]) := by rw [← hw0]; exact Bk.new1 _ _ _ _
      have HEp : Hid (Ens w0 pp (pl)) := HP.out.ens.below HBW.out (Nat.le_refl _)
      have p_0 : w0.cell? ⟨w.heap.size, 0, none⟩ = some (.bool false) := HXp.out.cell 0
      have p_1 : w0.cell? ⟨w.heap.size, 1, none⟩ = some (.string plo) := HXp.out.cell 1
      have p_2 : w0.cell? ⟨w.heap.size, 2, none⟩ = some (.string phi) := HXp.out.cell 2
      have p_3 : w0.cell? ⟨w.heap.size, 3, none⟩ = some (.int .i64 pr) := HXp.out.cell 3
      have p_4 : w0.cell? ⟨w.heap.size, 4, none⟩ = some (.slice pp pn pc) := HXp.out.cell 4
      go_enter Try.func6, Try.ntmps6
      go_wp2_with fail
      clear p_0 p_1 p_2 p_3 p_4 hw0
      refine (rcheck_any false plo phi pr pp pn pc pl _ HP.out.lenq HEp.out (by omega)).mono ?_
      rw [hmay]
      simp only [if_true]
      rintro x w1 ⟨rfl, hb⟩
      have HXp : Hid (Bk w1 (w.heap.size) 24 #[.bool false, .string plo, .string phi, .int .i64 pr, .slice pp pn pc]) := HXp.out.below hb HXp.out.lt
      have HXe : Hid (Bk w1 (w.heap.size + 1) 28 #[.string ek, .int .i64 es, .int .i64 eg, .int .i64 ec]) := HXe.out.below hb HXe.out.lt
      have HEp : Hid (Ens w1 pp (pl)) := HEp.out.below hb (Nat.le_refl _)
      have HBW : Hid (Below w.heap.size w w1) := HBW.out.trans (hb.mono HBW.out.size)
      clear hb
      go_wp2_with fail
      refine (live_any _).mono ?_
      rintro x w2 ⟨rfl, hb⟩
      have HXp : Hid (Bk w2 (w.heap.size) 24 #[.bool false, .string plo, .string phi, .int .i64 pr, .slice pp pn pc]) := HXp.out.below hb HXp.out.lt
      have HXe : Hid (Bk w2 (w.heap.size + 1) 28 #[.string ek, .int .i64 es, .int .i64 eg, .int .i64 ec]) := HXe.out.below hb HXe.out.lt
      have HEp : Hid (Ens w2 pp (pl)) := HEp.out.below hb (Nat.le_refl _)
      have HBW : Hid (Below w.heap.size w w2) := HBW.out.trans (hb.mono HBW.out.size)
      clear hb
      have p_0 : w2.cell? ⟨w.heap.size, 0, none⟩ = some (.bool false) := HXp.out.cell 0
      have p_1 : w2.cell? ⟨w.heap.size, 1, none⟩ = some (.string plo) := HXp.out.cell 1
      have p_2 : w2.cell? ⟨w.heap.size, 2, none⟩ = some (.string phi) := HXp.out.cell 2
      have p_3 : w2.cell? ⟨w.heap.size, 3, none⟩ = some (.int .i64 pr) := HXp.out.cell 3
      have p_4 : w2.cell? ⟨w.heap.size, 4, none⟩ = some (.slice pp pn pc) := HXp.out.cell 4
      have e_0 : w2.cell? ⟨w.heap.size + 1, 0, none⟩ = some (.string ek) := HXe.out.cell 0
      have e_1 : w2.cell? ⟨w.heap.size + 1, 1, none⟩ = some (.int .i64 es) := HXe.out.cell 1
      have e_2 : w2.cell? ⟨w.heap.size + 1, 2, none⟩ = some (.int .i64 eg) := HXe.out.cell 2
      have e_3 : w2.cell? ⟨w.heap.size + 1, 3, none⟩ = some (.int .i64 ec) := HXe.out.cell 3
      have ef_0 : w2.frozen? ⟨w.heap.size + 1, 0, none⟩ = false := HXe.out.frozen 0
      have ef_1 : w2.frozen? ⟨w.heap.size + 1, 1, none⟩ = false := HXe.out.frozen 1
      have ef_2 : w2.frozen? ⟨w.heap.size + 1, 2, none⟩ = false := HXe.out.frozen 2
      have ef_3 : w2.frozen? ⟨w.heap.size + 1, 3, none⟩ = false := HXe.out.frozen 3
      obtain ⟨w3, hw3⟩ : ∃ w3, ((w2.setCell ⟨w.heap.size + 1, 1, none⟩ (.int .i64 0)).setCell ⟨w.heap.size + 1, 2, none⟩ (.int .i64 0)).setCell ⟨w.heap.size + 1, 3, none⟩ (.int .i64 (max ec 1)) = w3 := ⟨_, rfl⟩
      have ht : Tn [w.heap.size + 1] w2 w3 := by rw [← hw3]; exact ((((Tn.refl _ _).setCell (p := ⟨w.heap.size + 1, 1, none⟩) (.inl (by simp)) _).setCell (p := ⟨w.heap.size + 1, 2, none⟩) (.inl (by simp)) _).setCell (p := ⟨w.heap.size + 1, 3, none⟩) (.inl (by simp)) _)
      have HXe : Hid (Bk w3 (w.heap.size + 1) 28 #[.string ek, .int .i64 0, .int .i64 0, .int .i64 (max ec 1)]) := by rw [Hid, ← hw3]; have := (((HXe.out.set 1 (.int .i64 0)).set 2 (.int .i64 0)).set 3 (.int .i64 (max ec 1))); simpa using this
      have HXp : Hid (Bk w3 (w.heap.size) 24 #[.bool false, .string plo, .string phi, .int .i64 pr, .slice pp pn pc]) := HXp.out.tn ht (by simp)
      have HBW : Hid (Below w.heap.size w w3) := HBW.out.trans (ht.below HBW.out.size (by simp))
      have HEp : Hid (Ens w3 pp (pl)) := HP.out.ens.below HBW.out (Nat.le_refl _)
      clear ht
      have pp_0 : w3.cell? ⟨w.heap.size, 0, none⟩ = some (.bool false) := HXp.out.cell 0
      have pp_1 : w3.cell? ⟨w.heap.size, 1, none⟩ = some (.string plo) := HXp.out.cell 1
      have pp_2 : w3.cell? ⟨w.heap.size, 2, none⟩ = some (.string phi) := HXp.out.cell 2
      have pp_3 : w3.cell? ⟨w.heap.size, 3, none⟩ = some (.int .i64 pr) := HXp.out.cell 3
      have pp_4 : w3.cell? ⟨w.heap.size, 4, none⟩ = some (.slice pp pn pc) := HXp.out.cell 4
      have ee_0 : w3.cell? ⟨w.heap.size + 1, 0, none⟩ = some (.string ek) := HXe.out.cell 0
      have ee_1 : w3.cell? ⟨w.heap.size + 1, 1, none⟩ = some (.int .i64 0) := HXe.out.cell 1
      have ee_2 : w3.cell? ⟨w.heap.size + 1, 2, none⟩ = some (.int .i64 0) := HXe.out.cell 2
      have ee_3 : w3.cell? ⟨w.heap.size + 1, 3, none⟩ = some (.int .i64 (max ec 1)) := HXe.out.cell 3
      cases hin : Ky.inn ⟨plo, phi⟩ ek with
      | false =>
        have hany : pl.any (Pg.is ek) = false := Pg.any_miss fun j x hj hx => Pg.not_is (fun hh => by have := Pg.fits_in (Pg.may_parts HMAY.out).2.1 hx; rw [hh, hin] at this; cases this)
        go_wp2_with fail
        clear p_0 p_1 p_2 p_3 p_4 e_0 e_1 e_2 e_3 ef_0 ef_1 ef_2 ef_3 hw3 pp_0 pp_1 pp_2 pp_3 pp_4 ee_0 ee_1 ee_2 ee_3
        refine (put_any false plo phi pr pp pn pc pl ⟨ek, 0, 0, max ec 1⟩ _ HP.out.lenq HEp.out (by omega) HP.out.nil).mono ?_
        have hpt : Pg.put ⟨false, plo, phi, pr, pl⟩ ⟨ek, 0, 0, max ec 1⟩ = (Pg.zero, 73) := by unfold Pg.put; rw [show Ky.inn ⟨plo, phi⟩ ek = false from hin]; rfl
        rw [hpt]
        clear hpt
        rintro x w4 ⟨v, rfl, hga, hb⟩
        have HXp : Hid (Bk w4 (w.heap.size) 24 #[.bool false, .string plo, .string phi, .int .i64 pr, .slice pp pn pc]) := HXp.out.below hb HXp.out.lt
        have HXe : Hid (Bk w4 (w.heap.size + 1) 28 #[.string ek, .int .i64 0, .int .i64 0, .int .i64 (max ec 1)]) := HXe.out.below hb HXe.out.lt
        have HEp : Hid (Ens w4 pp (pl)) := HEp.out.below hb (Nat.le_refl _)
        have HBW : Hid (Below w.heap.size w w4) := HBW.out.trans (hb.mono HBW.out.size)
        obtain ⟨qp, qc, hqv, -⟩ := hga
        subst hqv
        clear hb
        obtain ⟨w5, hw5⟩ : ∃ w5, w4.alloc (.cells #[.bool false, .string ⟨#[]⟩, .string ⟨#[]⟩, .int .i64 0, .slice qp 0 qc] 24) = w5 := ⟨_, rfl⟩
        have hb : Below w4.heap.size w4 w5 := by rw [← hw5]; exact (Below.refl _ _).alloc (Nat.le_refl _) _
        have HXq : Hid (Bk w5 w4.heap.size 24 #[.bool false, .string ⟨#[]⟩, .string ⟨#[]⟩, .int .i64 0, .slice qp 0 qc]) := by rw [← hw5]; exact Bk.new _ _ _
        have HXp : Hid (Bk w5 (w.heap.size) 24 #[.bool false, .string plo, .string phi, .int .i64 pr, .slice pp pn pc]) := HXp.out.below hb HXp.out.lt
        have HXe : Hid (Bk w5 (w.heap.size + 1) 28 #[.string ek, .int .i64 0, .int .i64 0, .int .i64 (max ec 1)]) := HXe.out.below hb HXe.out.lt
        have HEp : Hid (Ens w5 pp (pl)) := HEp.out.below hb (Nat.le_refl _)
        have HBW : Hid (Below w.heap.size w w5) := HBW.out.trans (hb.mono HBW.out.size)
        clear hb
        have p_0 : w5.cell? ⟨w.heap.size, 0, none⟩ = some (.bool false) := HXp.out.cell 0
        have p_1 : w5.cell? ⟨w.heap.size, 1, none⟩ = some (.string plo) := HXp.out.cell 1
        have p_2 : w5.cell? ⟨w.heap.size, 2, none⟩ = some (.string phi) := HXp.out.cell 2
        have p_3 : w5.cell? ⟨w.heap.size, 3, none⟩ = some (.int .i64 pr) := HXp.out.cell 3
        have p_4 : w5.cell? ⟨w.heap.size, 4, none⟩ = some (.slice pp pn pc) := HXp.out.cell 4
        have e_0 : w5.cell? ⟨w.heap.size + 1, 0, none⟩ = some (.string ek) := HXe.out.cell 0
        have e_1 : w5.cell? ⟨w.heap.size + 1, 1, none⟩ = some (.int .i64 0) := HXe.out.cell 1
        have e_2 : w5.cell? ⟨w.heap.size + 1, 2, none⟩ = some (.int .i64 0) := HXe.out.cell 2
        have e_3 : w5.cell? ⟨w.heap.size + 1, 3, none⟩ = some (.int .i64 (max ec 1)) := HXe.out.cell 3
        go_wp2_with fail
        clear hw5 p_0 p_1 p_2 p_3 p_4 e_0 e_1 e_2 e_3
        refine (remove_any false plo phi pr pp pn pc pl ek _ HP.out.lenq HEp.out (by omega)).mono ?_
        have hrm : Pg.remove ⟨false, plo, phi, pr, pl⟩ ek = (Pg.zero, 4) := by unfold Pg.remove; rw [hany]; rfl
        rw [hrm]
        clear hrm
        rintro x w6 ⟨v, rfl, hga, hb⟩
        have HXp : Hid (Bk w6 (w.heap.size) 24 #[.bool false, .string plo, .string phi, .int .i64 pr, .slice pp pn pc]) := HXp.out.below hb HXp.out.lt
        have HXe : Hid (Bk w6 (w.heap.size + 1) 28 #[.string ek, .int .i64 0, .int .i64 0, .int .i64 (max ec 1)]) := HXe.out.below hb HXe.out.lt
        have HXq : Hid (Bk w6 (w4.heap.size) 24 #[.bool false, .string ⟨#[]⟩, .string ⟨#[]⟩, .int .i64 0, .slice qp 0 qc]) := HXq.out.below hb HXq.out.lt
        have HEp : Hid (Ens w6 pp (pl)) := HEp.out.below hb (Nat.le_refl _)
        have HBW : Hid (Below w.heap.size w w6) := HBW.out.trans (hb.mono HBW.out.size)
        obtain ⟨rp, rc, hrv, -⟩ := hga
        subst hrv
        clear hb
        obtain ⟨w7, hw7⟩ : ∃ w7, w6.alloc (.cells #[.bool false, .string ⟨#[]⟩, .string ⟨#[]⟩, .int .i64 0, .slice rp 0 rc] 24) = w7 := ⟨_, rfl⟩
        have hb : Below w6.heap.size w6 w7 := by rw [← hw7]; exact (Below.refl _ _).alloc (Nat.le_refl _) _
        have HXrm : Hid (Bk w7 w6.heap.size 24 #[.bool false, .string ⟨#[]⟩, .string ⟨#[]⟩, .int .i64 0, .slice rp 0 rc]) := by rw [← hw7]; exact Bk.new _ _ _
        have HXp : Hid (Bk w7 (w.heap.size) 24 #[.bool false, .string plo, .string phi, .int .i64 pr, .slice pp pn pc]) := HXp.out.below hb HXp.out.lt
        have HXe : Hid (Bk w7 (w.heap.size + 1) 28 #[.string ek, .int .i64 0, .int .i64 0, .int .i64 (max ec 1)]) := HXe.out.below hb HXe.out.lt
        have HXq : Hid (Bk w7 (w4.heap.size) 24 #[.bool false, .string ⟨#[]⟩, .string ⟨#[]⟩, .int .i64 0, .slice qp 0 qc]) := HXq.out.below hb HXq.out.lt
        have HEp : Hid (Ens w7 pp (pl)) := HEp.out.below hb (Nat.le_refl _)
        have HBW : Hid (Below w.heap.size w w7) := HBW.out.trans (hb.mono HBW.out.size)
        clear hb
        have p_0 : w7.cell? ⟨w.heap.size, 0, none⟩ = some (.bool false) := HXp.out.cell 0
        have p_1 : w7.cell? ⟨w.heap.size, 1, none⟩ = some (.string plo) := HXp.out.cell 1
        have p_2 : w7.cell? ⟨w.heap.size, 2, none⟩ = some (.string phi) := HXp.out.cell 2
        have p_3 : w7.cell? ⟨w.heap.size, 3, none⟩ = some (.int .i64 pr) := HXp.out.cell 3
        have p_4 : w7.cell? ⟨w.heap.size, 4, none⟩ = some (.slice pp pn pc) := HXp.out.cell 4
        go_wp2_with fail
        clear hw7 p_0 p_1 p_2 p_3 p_4
        refine (split_any false plo phi pr pp pn pc pl id _ HP.out.lenq HEp.out (by omega) HP.out.keys).mono ?_
        obtain ⟨⟨ga, gb, k⟩, hsp⟩ : ∃ o, Pg.split ⟨false, plo, phi, pr, pl⟩ id = o := ⟨_, rfl⟩
        rw [hsp]
        rintro x w8 ⟨v1, v2, rfl, hga, hgb, hb⟩
        have HXp : Hid (Bk w8 (w.heap.size) 24 #[.bool false, .string plo, .string phi, .int .i64 pr, .slice pp pn pc]) := HXp.out.below hb HXp.out.lt
        have HXe : Hid (Bk w8 (w.heap.size + 1) 28 #[.string ek, .int .i64 0, .int .i64 0, .int .i64 (max ec 1)]) := HXe.out.below hb HXe.out.lt
        have HXq : Hid (Bk w8 (w4.heap.size) 24 #[.bool false, .string ⟨#[]⟩, .string ⟨#[]⟩, .int .i64 0, .slice qp 0 qc]) := HXq.out.below hb HXq.out.lt
        have HXrm : Hid (Bk w8 (w6.heap.size) 24 #[.bool false, .string ⟨#[]⟩, .string ⟨#[]⟩, .int .i64 0, .slice rp 0 rc]) := HXrm.out.below hb HXrm.out.lt
        have HEp : Hid (Ens w8 pp (pl)) := HEp.out.below hb (Nat.le_refl _)
        have HBW : Hid (Below w.heap.size w w8) := HBW.out.trans (hb.mono HBW.out.size)
        obtain ⟨af, alo, ahi, ar, ap, an, ac, al, rfl, rfl, han, hae, hnla⟩ := hga.parts
        obtain ⟨bf, blo, bhi, br, bp, bn, bc, bl, rfl, rfl, hbn, hbe, hnlb⟩ := hgb.parts
        have HSP : Hid (Pg.split ⟨false, plo, phi, pr, pl⟩ id = (⟨af, alo, ahi, ar, al⟩, ⟨bf, blo, bhi, br, bl⟩, k)) := hsp
        have HEa : Hid (Ens w8 ap (al)) := hae
        have HEb : Hid (Ens w8 bp (bl)) := hbe
        have HNa : Hid (al.length = an) := han
        have HNb : Hid (bl.length = bn) := hbn
        have HLa : Hid (ap = none → an = 0 ∧ ac = 0) := hnla
        have HLb : Hid (bp = none → bn = 0 ∧ bc = 0) := hnlb
        clear hsp hga hgb hb hae hbe han hbn hnla hnlb
        by_cases hk : k = 0
        · subst hk
          obtain ⟨i, m, x, y, hil, hid1, hgx, hgy, hpt, hse⟩ := Pg.split_ok (g := ⟨false, plo, phi, pr, pl⟩) (id := id) (by rw [HSP.out])
          rw [HSP.out] at hse
          simp only [Prod.mk.injEq, Pp.mk.injEq, and_true] at hse
          obtain ⟨⟨u1, u2, u3, u4, u5⟩, ⟨u6, u7, u8, u9, u0⟩⟩ := hse
          obtain rfl := u1.symm
          obtain rfl := u2.symm
          obtain rfl := u3.symm
          obtain rfl := u4.symm
          obtain rfl := u5.symm
          obtain rfl := u6.symm
          obtain rfl := u7.symm
          obtain rfl := u8.symm
          obtain rfl := u9.symm
          obtain rfl := u0.symm
          simp only at hil hgx hgy hpt
          have hms := Pg.may_split HMAY.out hid1 hgx hgy hpt
          have HMA : Hid (Pg.may false ⟨plo, m⟩ id (pl.take (i + 1)) = true) := hms.1
          have HMB : Hid (Pg.may false ⟨m, phi⟩ pr (pl.drop (i + 1)) = true) := hms.2
          have HMG : Hid (Pg.merge ⟨false, plo, m, id, pl.take (i + 1)⟩ ⟨false, m, phi, pr, pl.drop (i + 1)⟩ = (⟨false, plo, phi, pr, pl⟩, 0)) := Pg.merge_back (Pg.part_facts hpt (HRS.out i x y hgx hgy)).2.2
          have hbA : an ≤ 3518437208780 := by have h1 := HNa.out; have h2 := HP.out.lenq; rw [List.length_take] at h1; omega
          have hbB : bn ≤ 3518437208780 := by have h1 := HNb.out; have h2 := HP.out.lenq; rw [List.length_drop] at h1; omega
          have hbS : an + bn = pn := by have h1 := HNa.out; have h2 := HP.out.lenq; have h3 := HNb.out; rw [List.length_take] at h1; rw [List.length_drop] at h3; omega
          clear hil hid1 hgx hgy hpt hms HSP
          obtain ⟨w9, hw9⟩ : ∃ w9, (w8.alloc (.cells #[.bool false, .string plo, .string m, .int .i64 id, .slice ap an ac] 24)).alloc (.cells #[.bool false, .string m, .string phi, .int .i64 pr, .slice bp bn bc] 24) = w9 := ⟨_, rfl⟩
          have hb : Below w8.heap.size w8 w9 := by rw [← hw9]; exact ((Below.refl _ _).alloc (Nat.le_refl _) _).alloc (by simp) _
          have HXa : Hid (Bk w9 (w8.heap.size) 24 #[.bool false, .string plo, .string m, .int .i64 id, .slice ap an ac]) := by rw [← hw9]; exact (Bk.new _ _ _).alloc _
          have HXb : Hid (Bk w9 (w8.heap.size + 1) 24 #[.bool false, .string m, .string phi, .int .i64 pr, .slice bp bn bc]) := by rw [← hw9]; exact Bk.new1 _ _ _ _
          have HXp : Hid (Bk w9 (w.heap.size) 24 #[.bool false, .string plo, .string phi, .int .i64 pr, .slice pp pn pc]) := HXp.out.below hb HXp.out.lt
          have HXe : Hid (Bk w9 (w.heap.size + 1) 28 #[.string ek, .int .i64 0, .int .i64 0, .int .i64 (max ec 1)]) := HXe.out.below hb HXe.out.lt
          have HXq : Hid (Bk w9 (w4.heap.size) 24 #[.bool false, .string ⟨#[]⟩, .string ⟨#[]⟩, .int .i64 0, .slice qp 0 qc]) := HXq.out.below hb HXq.out.lt
          have HXrm : Hid (Bk w9 (w6.heap.size) 24 #[.bool false, .string ⟨#[]⟩, .string ⟨#[]⟩, .int .i64 0, .slice rp 0 rc]) := HXrm.out.below hb HXrm.out.lt
          have HEp : Hid (Ens w9 pp (pl)) := HEp.out.below hb (Nat.le_refl _)
          have HEa : Hid (Ens w9 ap (pl.take (i + 1))) := HEa.out.below hb (Nat.le_refl _)
          have HEb : Hid (Ens w9 bp (pl.drop (i + 1))) := HEb.out.below hb (Nat.le_refl _)
          have HBW : Hid (Below w.heap.size w w9) := HBW.out.trans (hb.mono HBW.out.size)
          clear hb
          have a_0 : w9.cell? ⟨w8.heap.size, 0, none⟩ = some (.bool false) := HXa.out.cell 0
          have a_1 : w9.cell? ⟨w8.heap.size, 1, none⟩ = some (.string plo) := HXa.out.cell 1
          have a_2 : w9.cell? ⟨w8.heap.size, 2, none⟩ = some (.string m) := HXa.out.cell 2
          have a_3 : w9.cell? ⟨w8.heap.size, 3, none⟩ = some (.int .i64 id) := HXa.out.cell 3
          have a_4 : w9.cell? ⟨w8.heap.size, 4, none⟩ = some (.slice ap an ac) := HXa.out.cell 4
          have b_0 : w9.cell? ⟨w8.heap.size + 1, 0, none⟩ = some (.bool false) := HXb.out.cell 0
          have b_1 : w9.cell? ⟨w8.heap.size + 1, 1, none⟩ = some (.string m) := HXb.out.cell 1
          have b_2 : w9.cell? ⟨w8.heap.size + 1, 2, none⟩ = some (.string phi) := HXb.out.cell 2
          have b_3 : w9.cell? ⟨w8.heap.size + 1, 3, none⟩ = some (.int .i64 pr) := HXb.out.cell 3
          have b_4 : w9.cell? ⟨w8.heap.size + 1, 4, none⟩ = some (.slice bp bn bc) := HXb.out.cell 4
          go_wp2_with fail
          clear hw9 a_0 a_1 a_2 a_3 a_4 b_0 b_1 b_2 b_3 b_4
          refine (check_any false plo m id ap an ac (pl.take (i + 1)) _ HNa.out HEa.out (by omega)).mono ?_
          rw [HMA.out]
          simp only [if_true]
          rintro x w10 ⟨rfl, hb⟩
          have HXp : Hid (Bk w10 (w.heap.size) 24 #[.bool false, .string plo, .string phi, .int .i64 pr, .slice pp pn pc]) := HXp.out.below hb HXp.out.lt
          have HXe : Hid (Bk w10 (w.heap.size + 1) 28 #[.string ek, .int .i64 0, .int .i64 0, .int .i64 (max ec 1)]) := HXe.out.below hb HXe.out.lt
          have HXq : Hid (Bk w10 (w4.heap.size) 24 #[.bool false, .string ⟨#[]⟩, .string ⟨#[]⟩, .int .i64 0, .slice qp 0 qc]) := HXq.out.below hb HXq.out.lt
          have HXrm : Hid (Bk w10 (w6.heap.size) 24 #[.bool false, .string ⟨#[]⟩, .string ⟨#[]⟩, .int .i64 0, .slice rp 0 rc]) := HXrm.out.below hb HXrm.out.lt
          have HXa : Hid (Bk w10 (w8.heap.size) 24 #[.bool false, .string plo, .string m, .int .i64 id, .slice ap an ac]) := HXa.out.below hb HXa.out.lt
          have HXb : Hid (Bk w10 (w8.heap.size + 1) 24 #[.bool false, .string m, .string phi, .int .i64 pr, .slice bp bn bc]) := HXb.out.below hb HXb.out.lt
          have HEp : Hid (Ens w10 pp (pl)) := HEp.out.below hb (Nat.le_refl _)
          have HEa : Hid (Ens w10 ap (pl.take (i + 1))) := HEa.out.below hb (Nat.le_refl _)
          have HEb : Hid (Ens w10 bp (pl.drop (i + 1))) := HEb.out.below hb (Nat.le_refl _)
          have HBW : Hid (Below w.heap.size w w10) := HBW.out.trans (hb.mono HBW.out.size)
          clear hb
          have a_0 : w10.cell? ⟨w8.heap.size, 0, none⟩ = some (.bool false) := HXa.out.cell 0
          have a_1 : w10.cell? ⟨w8.heap.size, 1, none⟩ = some (.string plo) := HXa.out.cell 1
          have a_2 : w10.cell? ⟨w8.heap.size, 2, none⟩ = some (.string m) := HXa.out.cell 2
          have a_3 : w10.cell? ⟨w8.heap.size, 3, none⟩ = some (.int .i64 id) := HXa.out.cell 3
          have a_4 : w10.cell? ⟨w8.heap.size, 4, none⟩ = some (.slice ap an ac) := HXa.out.cell 4
          have b_0 : w10.cell? ⟨w8.heap.size + 1, 0, none⟩ = some (.bool false) := HXb.out.cell 0
          have b_1 : w10.cell? ⟨w8.heap.size + 1, 1, none⟩ = some (.string m) := HXb.out.cell 1
          have b_2 : w10.cell? ⟨w8.heap.size + 1, 2, none⟩ = some (.string phi) := HXb.out.cell 2
          have b_3 : w10.cell? ⟨w8.heap.size + 1, 3, none⟩ = some (.int .i64 pr) := HXb.out.cell 3
          have b_4 : w10.cell? ⟨w8.heap.size + 1, 4, none⟩ = some (.slice bp bn bc) := HXb.out.cell 4
          go_wp2_with fail
          clear a_0 a_1 a_2 a_3 a_4 b_0 b_1 b_2 b_3 b_4
          refine (check_any false m phi pr bp bn bc (pl.drop (i + 1)) _ HNb.out HEb.out (by omega)).mono ?_
          rw [HMB.out]
          simp only [if_true]
          rintro x w11 ⟨rfl, hb⟩
          have HXp : Hid (Bk w11 (w.heap.size) 24 #[.bool false, .string plo, .string phi, .int .i64 pr, .slice pp pn pc]) := HXp.out.below hb HXp.out.lt
          have HXe : Hid (Bk w11 (w.heap.size + 1) 28 #[.string ek, .int .i64 0, .int .i64 0, .int .i64 (max ec 1)]) := HXe.out.below hb HXe.out.lt
          have HXq : Hid (Bk w11 (w4.heap.size) 24 #[.bool false, .string ⟨#[]⟩, .string ⟨#[]⟩, .int .i64 0, .slice qp 0 qc]) := HXq.out.below hb HXq.out.lt
          have HXrm : Hid (Bk w11 (w6.heap.size) 24 #[.bool false, .string ⟨#[]⟩, .string ⟨#[]⟩, .int .i64 0, .slice rp 0 rc]) := HXrm.out.below hb HXrm.out.lt
          have HXa : Hid (Bk w11 (w8.heap.size) 24 #[.bool false, .string plo, .string m, .int .i64 id, .slice ap an ac]) := HXa.out.below hb HXa.out.lt
          have HXb : Hid (Bk w11 (w8.heap.size + 1) 24 #[.bool false, .string m, .string phi, .int .i64 pr, .slice bp bn bc]) := HXb.out.below hb HXb.out.lt
          have HEp : Hid (Ens w11 pp (pl)) := HEp.out.below hb (Nat.le_refl _)
          have HEa : Hid (Ens w11 ap (pl.take (i + 1))) := HEa.out.below hb (Nat.le_refl _)
          have HEb : Hid (Ens w11 bp (pl.drop (i + 1))) := HEb.out.below hb (Nat.le_refl _)
          have HBW : Hid (Below w.heap.size w w11) := HBW.out.trans (hb.mono HBW.out.size)
          clear hb
          have hidn : (id != id) = false := by simp
          have a_0 : w11.cell? ⟨w8.heap.size, 0, none⟩ = some (.bool false) := HXa.out.cell 0
          have a_1 : w11.cell? ⟨w8.heap.size, 1, none⟩ = some (.string plo) := HXa.out.cell 1
          have a_2 : w11.cell? ⟨w8.heap.size, 2, none⟩ = some (.string m) := HXa.out.cell 2
          have a_3 : w11.cell? ⟨w8.heap.size, 3, none⟩ = some (.int .i64 id) := HXa.out.cell 3
          have a_4 : w11.cell? ⟨w8.heap.size, 4, none⟩ = some (.slice ap an ac) := HXa.out.cell 4
          have b_0 : w11.cell? ⟨w8.heap.size + 1, 0, none⟩ = some (.bool false) := HXb.out.cell 0
          have b_1 : w11.cell? ⟨w8.heap.size + 1, 1, none⟩ = some (.string m) := HXb.out.cell 1
          have b_2 : w11.cell? ⟨w8.heap.size + 1, 2, none⟩ = some (.string phi) := HXb.out.cell 2
          have b_3 : w11.cell? ⟨w8.heap.size + 1, 3, none⟩ = some (.int .i64 pr) := HXb.out.cell 3
          have b_4 : w11.cell? ⟨w8.heap.size + 1, 4, none⟩ = some (.slice bp bn bc) := HXb.out.cell 4
          go_wp2_with fail
          clear a_0 a_1 a_2 a_3 a_4 b_0 b_1 b_2 b_3 b_4
          refine (merge_any ⟨false, plo, m, id, pl.take (i + 1)⟩ ⟨false, m, phi, pr, pl.drop (i + 1)⟩ ap bp an bn ac bc _ HNa.out HNb.out HEa.out HEb.out HLa.out HLb.out (by omega) (by omega)).mono ?_
          rw [HMG.out]
          rintro x w12 ⟨v, rfl, hgm, hb⟩
          have HXp : Hid (Bk w12 (w.heap.size) 24 #[.bool false, .string plo, .string phi, .int .i64 pr, .slice pp pn pc]) := HXp.out.below hb HXp.out.lt
          have HXe : Hid (Bk w12 (w.heap.size + 1) 28 #[.string ek, .int .i64 0, .int .i64 0, .int .i64 (max ec 1)]) := HXe.out.below hb HXe.out.lt
          have HXq : Hid (Bk w12 (w4.heap.size) 24 #[.bool false, .string ⟨#[]⟩, .string ⟨#[]⟩, .int .i64 0, .slice qp 0 qc]) := HXq.out.below hb HXq.out.lt
          have HXrm : Hid (Bk w12 (w6.heap.size) 24 #[.bool false, .string ⟨#[]⟩, .string ⟨#[]⟩, .int .i64 0, .slice rp 0 rc]) := HXrm.out.below hb HXrm.out.lt
          have HXa : Hid (Bk w12 (w8.heap.size) 24 #[.bool false, .string plo, .string m, .int .i64 id, .slice ap an ac]) := HXa.out.below hb HXa.out.lt
          have HXb : Hid (Bk w12 (w8.heap.size + 1) 24 #[.bool false, .string m, .string phi, .int .i64 pr, .slice bp bn bc]) := HXb.out.below hb HXb.out.lt
          have HEp : Hid (Ens w12 pp (pl)) := HEp.out.below hb (Nat.le_refl _)
          have HEa : Hid (Ens w12 ap (pl.take (i + 1))) := HEa.out.below hb (Nat.le_refl _)
          have HEb : Hid (Ens w12 bp (pl.drop (i + 1))) := HEb.out.below hb (Nat.le_refl _)
          have HBW : Hid (Below w.heap.size w w12) := HBW.out.trans (hb.mono HBW.out.size)
          obtain ⟨mf, mlo, mhi, mr, mp, mn, mc, ml, hmq, rfl, hmn, hme, -⟩ := hgm.parts
          simp only [Pp.mk.injEq] at hmq
          obtain ⟨rfl, rfl, rfl, rfl, rfl⟩ := hmq
          obtain rfl : pn = mn := by rw [← HP.out.lenq, ← hmn]
          have HEm : Hid (Ens w12 mp (pl)) := hme
          clear hb hgm hme hmn
          obtain ⟨w13, hw13⟩ : ∃ w13, w12.alloc (.cells #[.bool false, .string plo, .string phi, .int .i64 pr, .slice mp pn mc] 24) = w13 := ⟨_, rfl⟩
          have hb : Below w12.heap.size w12 w13 := by rw [← hw13]; exact (Below.refl _ _).alloc (Nat.le_refl _) _
          have HXm : Hid (Bk w13 w12.heap.size 24 #[.bool false, .string plo, .string phi, .int .i64 pr, .slice mp pn mc]) := by rw [← hw13]; exact Bk.new _ _ _
          have HXp : Hid (Bk w13 (w.heap.size) 24 #[.bool false, .string plo, .string phi, .int .i64 pr, .slice pp pn pc]) := HXp.out.below hb HXp.out.lt
          have HXe : Hid (Bk w13 (w.heap.size + 1) 28 #[.string ek, .int .i64 0, .int .i64 0, .int .i64 (max ec 1)]) := HXe.out.below hb HXe.out.lt
          have HXq : Hid (Bk w13 (w4.heap.size) 24 #[.bool false, .string ⟨#[]⟩, .string ⟨#[]⟩, .int .i64 0, .slice qp 0 qc]) := HXq.out.below hb HXq.out.lt
          have HXrm : Hid (Bk w13 (w6.heap.size) 24 #[.bool false, .string ⟨#[]⟩, .string ⟨#[]⟩, .int .i64 0, .slice rp 0 rc]) := HXrm.out.below hb HXrm.out.lt
          have HXa : Hid (Bk w13 (w8.heap.size) 24 #[.bool false, .string plo, .string m, .int .i64 id, .slice ap an ac]) := HXa.out.below hb HXa.out.lt
          have HXb : Hid (Bk w13 (w8.heap.size + 1) 24 #[.bool false, .string m, .string phi, .int .i64 pr, .slice bp bn bc]) := HXb.out.below hb HXb.out.lt
          have HEp : Hid (Ens w13 pp (pl)) := HEp.out.below hb (Nat.le_refl _)
          have HEa : Hid (Ens w13 ap (pl.take (i + 1))) := HEa.out.below hb (Nat.le_refl _)
          have HEb : Hid (Ens w13 bp (pl.drop (i + 1))) := HEb.out.below hb (Nat.le_refl _)
          have HEm : Hid (Ens w13 mp (pl)) := HEm.out.below hb (Nat.le_refl _)
          have HBW : Hid (Below w.heap.size w w13) := HBW.out.trans (hb.mono HBW.out.size)
          clear hb
          have m_0 : w13.cell? ⟨w12.heap.size, 0, none⟩ = some (.bool false) := HXm.out.cell 0
          have m_1 : w13.cell? ⟨w12.heap.size, 1, none⟩ = some (.string plo) := HXm.out.cell 1
          have m_2 : w13.cell? ⟨w12.heap.size, 2, none⟩ = some (.string phi) := HXm.out.cell 2
          have m_3 : w13.cell? ⟨w12.heap.size, 3, none⟩ = some (.int .i64 pr) := HXm.out.cell 3
          have m_4 : w13.cell? ⟨w12.heap.size, 4, none⟩ = some (.slice mp pn mc) := HXm.out.cell 4
          have p_0 : w13.cell? ⟨w.heap.size, 0, none⟩ = some (.bool false) := HXp.out.cell 0
          have p_1 : w13.cell? ⟨w.heap.size, 1, none⟩ = some (.string plo) := HXp.out.cell 1
          have p_2 : w13.cell? ⟨w.heap.size, 2, none⟩ = some (.string phi) := HXp.out.cell 2
          have p_3 : w13.cell? ⟨w.heap.size, 3, none⟩ = some (.int .i64 pr) := HXp.out.cell 3
          have p_4 : w13.cell? ⟨w.heap.size, 4, none⟩ = some (.slice pp pn pc) := HXp.out.cell 4
          go_wp2_with fail
          clear hw13 m_0 m_1 m_2 m_3 m_4 p_0 p_1 p_2 p_3 p_4
          refine (same_any ⟨false, plo, phi, pr, pl⟩ ⟨false, plo, phi, pr, pl⟩ mp pp pn pn mc pc _ HP.out.lenq HP.out.lenq HEm.out HEp.out (by omega)).mono ?_
          rw [Pg.same_self]
          rintro x w14 ⟨rfl, hb⟩
          have HXp : Hid (Bk w14 (w.heap.size) 24 #[.bool false, .string plo, .string phi, .int .i64 pr, .slice pp pn pc]) := HXp.out.below hb HXp.out.lt
          have HXe : Hid (Bk w14 (w.heap.size + 1) 28 #[.string ek, .int .i64 0, .int .i64 0, .int .i64 (max ec 1)]) := HXe.out.below hb HXe.out.lt
          have HXq : Hid (Bk w14 (w4.heap.size) 24 #[.bool false, .string ⟨#[]⟩, .string ⟨#[]⟩, .int .i64 0, .slice qp 0 qc]) := HXq.out.below hb HXq.out.lt
          have HXrm : Hid (Bk w14 (w6.heap.size) 24 #[.bool false, .string ⟨#[]⟩, .string ⟨#[]⟩, .int .i64 0, .slice rp 0 rc]) := HXrm.out.below hb HXrm.out.lt
          have HXa : Hid (Bk w14 (w8.heap.size) 24 #[.bool false, .string plo, .string m, .int .i64 id, .slice ap an ac]) := HXa.out.below hb HXa.out.lt
          have HXb : Hid (Bk w14 (w8.heap.size + 1) 24 #[.bool false, .string m, .string phi, .int .i64 pr, .slice bp bn bc]) := HXb.out.below hb HXb.out.lt
          have HXm : Hid (Bk w14 (w12.heap.size) 24 #[.bool false, .string plo, .string phi, .int .i64 pr, .slice mp pn mc]) := HXm.out.below hb HXm.out.lt
          have HEp : Hid (Ens w14 pp (pl)) := HEp.out.below hb (Nat.le_refl _)
          have HEa : Hid (Ens w14 ap (pl.take (i + 1))) := HEa.out.below hb (Nat.le_refl _)
          have HEb : Hid (Ens w14 bp (pl.drop (i + 1))) := HEb.out.below hb (Nat.le_refl _)
          have HEm : Hid (Ens w14 mp (pl)) := HEm.out.below hb (Nat.le_refl _)
          have HBW : Hid (Below w.heap.size w w14) := HBW.out.trans (hb.mono HBW.out.size)
          clear hb
          go_wp2
          go_ret
          exact ⟨rfl, HBW.out⟩
        · have hno := Pg.split_no (g := ⟨false, plo, phi, pr, pl⟩) (id := id) HRS.out (by rw [HSP.out]; exact hk)
          have hkn : (k != 0) = true := by simp [hk]
          obtain ⟨w9, hw9⟩ : ∃ w9, (w8.alloc (.cells #[.bool af, .string alo, .string ahi, .int .i64 ar, .slice ap an ac] 24)).alloc (.cells #[.bool bf, .string blo, .string bhi, .int .i64 br, .slice bp bn bc] 24) = w9 := ⟨_, rfl⟩
          have hb : Below w8.heap.size w8 w9 := by rw [← hw9]; exact ((Below.refl _ _).alloc (Nat.le_refl _) _).alloc (by simp) _
          have HXa : Hid (Bk w9 (w8.heap.size) 24 #[.bool af, .string alo, .string ahi, .int .i64 ar, .slice ap an ac]) := by rw [← hw9]; exact (Bk.new _ _ _).alloc _
          have HXb : Hid (Bk w9 (w8.heap.size + 1) 24 #[.bool bf, .string blo, .string bhi, .int .i64 br, .slice bp bn bc]) := by rw [← hw9]; exact Bk.new1 _ _ _ _
          have HXp : Hid (Bk w9 (w.heap.size) 24 #[.bool false, .string plo, .string phi, .int .i64 pr, .slice pp pn pc]) := HXp.out.below hb HXp.out.lt
          have HXe : Hid (Bk w9 (w.heap.size + 1) 28 #[.string ek, .int .i64 0, .int .i64 0, .int .i64 (max ec 1)]) := HXe.out.below hb HXe.out.lt
          have HXq : Hid (Bk w9 (w4.heap.size) 24 #[.bool false, .string ⟨#[]⟩, .string ⟨#[]⟩, .int .i64 0, .slice qp 0 qc]) := HXq.out.below hb HXq.out.lt
          have HXrm : Hid (Bk w9 (w6.heap.size) 24 #[.bool false, .string ⟨#[]⟩, .string ⟨#[]⟩, .int .i64 0, .slice rp 0 rc]) := HXrm.out.below hb HXrm.out.lt
          have HEp : Hid (Ens w9 pp (pl)) := HEp.out.below hb (Nat.le_refl _)
          have HEa : Hid (Ens w9 ap (al)) := HEa.out.below hb (Nat.le_refl _)
          have HEb : Hid (Ens w9 bp (bl)) := HEb.out.below hb (Nat.le_refl _)
          have HBW : Hid (Below w.heap.size w w9) := HBW.out.trans (hb.mono HBW.out.size)
          clear hb
          have p_0 : w9.cell? ⟨w.heap.size, 0, none⟩ = some (.bool false) := HXp.out.cell 0
          have p_1 : w9.cell? ⟨w.heap.size, 1, none⟩ = some (.string plo) := HXp.out.cell 1
          have p_2 : w9.cell? ⟨w.heap.size, 2, none⟩ = some (.string phi) := HXp.out.cell 2
          have p_3 : w9.cell? ⟨w.heap.size, 3, none⟩ = some (.int .i64 pr) := HXp.out.cell 3
          have p_4 : w9.cell? ⟨w.heap.size, 4, none⟩ = some (.slice pp pn pc) := HXp.out.cell 4
          rcases hno with hno | hno
          · have hid2 : decide (id < 1) = true := decide_eq_true hno
            go_wp2
            go_ret
            exact ⟨rfl, HBW.out⟩
          · have hl2 : (pn : Int) < 2 := by have := HP.out.lenq; simp only at hno; omega
            by_cases hid2 : id < 1
            · have hid3 : decide (id < 1) = true := decide_eq_true hid2
              go_wp2
              go_ret
              exact ⟨rfl, HBW.out⟩
            · have hid3 : decide (id < 1) = false := decide_eq_false hid2
              go_wp2
              go_ret
              exact ⟨rfl, HBW.out⟩
      | true =>
        go_wp2_with fail
        clear p_0 p_1 p_2 p_3 p_4 e_0 e_1 e_2 e_3 ef_0 ef_1 ef_2 ef_3 hw3 pp_0 pp_1 pp_2 pp_3 pp_4 ee_0 ee_1 ee_2 ee_3
        refine (put_any false plo phi pr pp pn pc pl ⟨ek, 0, 0, max ec 1⟩ _ HP.out.lenq HEp.out (by omega) HP.out.nil).mono ?_
        have hpt : Pg.put ⟨false, plo, phi, pr, pl⟩ ⟨ek, 0, 0, max ec 1⟩ = (⟨false, plo, phi, pr, Pg.putL pl ⟨ek, 0, 0, max ec 1⟩⟩, 0) := by unfold Pg.put; rw [show Ky.inn ⟨plo, phi⟩ ek = true from hin]; rfl
        rw [hpt]
        clear hpt
        rintro x w4 ⟨v, rfl, hga, hb⟩
        have HXp : Hid (Bk w4 (w.heap.size) 24 #[.bool false, .string plo, .string phi, .int .i64 pr, .slice pp pn pc]) := HXp.out.below hb HXp.out.lt
        have HXe : Hid (Bk w4 (w.heap.size + 1) 28 #[.string ek, .int .i64 0, .int .i64 0, .int .i64 (max ec 1)]) := HXe.out.below hb HXe.out.lt
        have HEp : Hid (Ens w4 pp (pl)) := HEp.out.below hb (Nat.le_refl _)
        have HBW : Hid (Below w.heap.size w w4) := HBW.out.trans (hb.mono HBW.out.size)
        obtain ⟨qf, qlo, qhi, qr, qp, qn, qc, ql, hq, rfl, hqn, hqe, -⟩ := hga.parts
        simp only [Pp.mk.injEq] at hq
        obtain ⟨rfl, rfl, rfl, rfl, rfl⟩ := hq
        have hqb : qn ≤ 3518437208781 := by have h1 := Pg.putL_len pl ⟨ek, 0, 0, max ec 1⟩; have h2 := HP.out.lenq; omega
        have HMQ : Hid (Pg.may false ⟨plo, phi⟩ pr (Pg.putL pl ⟨ek, 0, 0, max ec 1⟩) = true) := Pg.may_put HMAY.out hin (by unfold Pg.kind; simp; omega)
        obtain ⟨ql, hql⟩ : ∃ ql, Pg.putL pl ⟨ek, 0, 0, max ec 1⟩ = ql := ⟨_, rfl⟩
        rw [hql] at hqn hqe HMQ
        have HNq : Hid (ql.length = qn) := hqn
        have HEq : Hid (Ens w4 qp (ql)) := hqe
        clear hb hga hqn hqe hql
        obtain ⟨w5, hw5⟩ : ∃ w5, w4.alloc (.cells #[.bool false, .string plo, .string phi, .int .i64 pr, .slice qp qn qc] 24) = w5 := ⟨_, rfl⟩
        have hb : Below w4.heap.size w4 w5 := by rw [← hw5]; exact (Below.refl _ _).alloc (Nat.le_refl _) _
        have HXq : Hid (Bk w5 w4.heap.size 24 #[.bool false, .string plo, .string phi, .int .i64 pr, .slice qp qn qc]) := by rw [← hw5]; exact Bk.new _ _ _
        have HXp : Hid (Bk w5 (w.heap.size) 24 #[.bool false, .string plo, .string phi, .int .i64 pr, .slice pp pn pc]) := HXp.out.below hb HXp.out.lt
        have HXe : Hid (Bk w5 (w.heap.size + 1) 28 #[.string ek, .int .i64 0, .int .i64 0, .int .i64 (max ec 1)]) := HXe.out.below hb HXe.out.lt
        have HEp : Hid (Ens w5 pp (pl)) := HEp.out.below hb (Nat.le_refl _)
        have HEq : Hid (Ens w5 qp (ql)) := HEq.out.below hb (Nat.le_refl _)
        have HBW : Hid (Below w.heap.size w w5) := HBW.out.trans (hb.mono HBW.out.size)
        clear hb
        have q_0 : w5.cell? ⟨w4.heap.size, 0, none⟩ = some (.bool false) := HXq.out.cell 0
        have q_1 : w5.cell? ⟨w4.heap.size, 1, none⟩ = some (.string plo) := HXq.out.cell 1
        have q_2 : w5.cell? ⟨w4.heap.size, 2, none⟩ = some (.string phi) := HXq.out.cell 2
        have q_3 : w5.cell? ⟨w4.heap.size, 3, none⟩ = some (.int .i64 pr) := HXq.out.cell 3
        have q_4 : w5.cell? ⟨w4.heap.size, 4, none⟩ = some (.slice qp qn qc) := HXq.out.cell 4
        go_wp2_with fail
        clear hw5 q_0 q_1 q_2 q_3 q_4
        refine (check_any false plo phi pr qp qn qc ql _ HNq.out HEq.out (by omega)).mono ?_
        rw [HMQ.out]
        simp only [if_true]
        rintro x w6 ⟨rfl, hb⟩
        have HXp : Hid (Bk w6 (w.heap.size) 24 #[.bool false, .string plo, .string phi, .int .i64 pr, .slice pp pn pc]) := HXp.out.below hb HXp.out.lt
        have HXe : Hid (Bk w6 (w.heap.size + 1) 28 #[.string ek, .int .i64 0, .int .i64 0, .int .i64 (max ec 1)]) := HXe.out.below hb HXe.out.lt
        have HXq : Hid (Bk w6 (w4.heap.size) 24 #[.bool false, .string plo, .string phi, .int .i64 pr, .slice qp qn qc]) := HXq.out.below hb HXq.out.lt
        have HEp : Hid (Ens w6 pp (pl)) := HEp.out.below hb (Nat.le_refl _)
        have HEq : Hid (Ens w6 qp (ql)) := HEq.out.below hb (Nat.le_refl _)
        have HBW : Hid (Below w.heap.size w w6) := HBW.out.trans (hb.mono HBW.out.size)
        clear hb
        cases hany : pl.any (Pg.is ek) with
        | false =>
          have p_0 : w6.cell? ⟨w.heap.size, 0, none⟩ = some (.bool false) := HXp.out.cell 0
          have p_1 : w6.cell? ⟨w.heap.size, 1, none⟩ = some (.string plo) := HXp.out.cell 1
          have p_2 : w6.cell? ⟨w.heap.size, 2, none⟩ = some (.string phi) := HXp.out.cell 2
          have p_3 : w6.cell? ⟨w.heap.size, 3, none⟩ = some (.int .i64 pr) := HXp.out.cell 3
          have p_4 : w6.cell? ⟨w.heap.size, 4, none⟩ = some (.slice pp pn pc) := HXp.out.cell 4
          have e_0 : w6.cell? ⟨w.heap.size + 1, 0, none⟩ = some (.string ek) := HXe.out.cell 0
          have e_1 : w6.cell? ⟨w.heap.size + 1, 1, none⟩ = some (.int .i64 0) := HXe.out.cell 1
          have e_2 : w6.cell? ⟨w.heap.size + 1, 2, none⟩ = some (.int .i64 0) := HXe.out.cell 2
          have e_3 : w6.cell? ⟨w.heap.size + 1, 3, none⟩ = some (.int .i64 (max ec 1)) := HXe.out.cell 3
          go_wp2_with fail
          clear p_0 p_1 p_2 p_3 p_4 e_0 e_1 e_2 e_3
          refine (remove_any false plo phi pr pp pn pc pl ek _ HP.out.lenq HEp.out (by omega)).mono ?_
          have hrm : Pg.remove ⟨false, plo, phi, pr, pl⟩ ek = (Pg.zero, 4) := by unfold Pg.remove; rw [hany]; rfl
          rw [hrm]
          clear hrm
          rintro x w7 ⟨v, rfl, hga, hb⟩
          have HXp : Hid (Bk w7 (w.heap.size) 24 #[.bool false, .string plo, .string phi, .int .i64 pr, .slice pp pn pc]) := HXp.out.below hb HXp.out.lt
          have HXe : Hid (Bk w7 (w.heap.size + 1) 28 #[.string ek, .int .i64 0, .int .i64 0, .int .i64 (max ec 1)]) := HXe.out.below hb HXe.out.lt
          have HXq : Hid (Bk w7 (w4.heap.size) 24 #[.bool false, .string plo, .string phi, .int .i64 pr, .slice qp qn qc]) := HXq.out.below hb HXq.out.lt
          have HEp : Hid (Ens w7 pp (pl)) := HEp.out.below hb (Nat.le_refl _)
          have HEq : Hid (Ens w7 qp (ql)) := HEq.out.below hb (Nat.le_refl _)
          have HBW : Hid (Below w.heap.size w w7) := HBW.out.trans (hb.mono HBW.out.size)
          obtain ⟨rp, rc, hrv, -⟩ := hga
          subst hrv
          clear hb
          obtain ⟨w8, hw8⟩ : ∃ w8, w7.alloc (.cells #[.bool false, .string ⟨#[]⟩, .string ⟨#[]⟩, .int .i64 0, .slice rp 0 rc] 24) = w8 := ⟨_, rfl⟩
          have hb : Below w7.heap.size w7 w8 := by rw [← hw8]; exact (Below.refl _ _).alloc (Nat.le_refl _) _
          have HXrm : Hid (Bk w8 w7.heap.size 24 #[.bool false, .string ⟨#[]⟩, .string ⟨#[]⟩, .int .i64 0, .slice rp 0 rc]) := by rw [← hw8]; exact Bk.new _ _ _
          have HXp : Hid (Bk w8 (w.heap.size) 24 #[.bool false, .string plo, .string phi, .int .i64 pr, .slice pp pn pc]) := HXp.out.below hb HXp.out.lt
          have HXe : Hid (Bk w8 (w.heap.size + 1) 28 #[.string ek, .int .i64 0, .int .i64 0, .int .i64 (max ec 1)]) := HXe.out.below hb HXe.out.lt
          have HXq : Hid (Bk w8 (w4.heap.size) 24 #[.bool false, .string plo, .string phi, .int .i64 pr, .slice qp qn qc]) := HXq.out.below hb HXq.out.lt
          have HEp : Hid (Ens w8 pp (pl)) := HEp.out.below hb (Nat.le_refl _)
          have HEq : Hid (Ens w8 qp (ql)) := HEq.out.below hb (Nat.le_refl _)
          have HBW : Hid (Below w.heap.size w w8) := HBW.out.trans (hb.mono HBW.out.size)
          clear hb
          have p_0 : w8.cell? ⟨w.heap.size, 0, none⟩ = some (.bool false) := HXp.out.cell 0
          have p_1 : w8.cell? ⟨w.heap.size, 1, none⟩ = some (.string plo) := HXp.out.cell 1
          have p_2 : w8.cell? ⟨w.heap.size, 2, none⟩ = some (.string phi) := HXp.out.cell 2
          have p_3 : w8.cell? ⟨w.heap.size, 3, none⟩ = some (.int .i64 pr) := HXp.out.cell 3
          have p_4 : w8.cell? ⟨w.heap.size, 4, none⟩ = some (.slice pp pn pc) := HXp.out.cell 4
          go_wp2_with fail
          clear hw8 p_0 p_1 p_2 p_3 p_4
          refine (split_any false plo phi pr pp pn pc pl id _ HP.out.lenq HEp.out (by omega) HP.out.keys).mono ?_
          obtain ⟨⟨ga, gb, k⟩, hsp⟩ : ∃ o, Pg.split ⟨false, plo, phi, pr, pl⟩ id = o := ⟨_, rfl⟩
          rw [hsp]
          rintro x w9 ⟨v1, v2, rfl, hga, hgb, hb⟩
          have HXp : Hid (Bk w9 (w.heap.size) 24 #[.bool false, .string plo, .string phi, .int .i64 pr, .slice pp pn pc]) := HXp.out.below hb HXp.out.lt
          have HXe : Hid (Bk w9 (w.heap.size + 1) 28 #[.string ek, .int .i64 0, .int .i64 0, .int .i64 (max ec 1)]) := HXe.out.below hb HXe.out.lt
          have HXq : Hid (Bk w9 (w4.heap.size) 24 #[.bool false, .string plo, .string phi, .int .i64 pr, .slice qp qn qc]) := HXq.out.below hb HXq.out.lt
          have HXrm : Hid (Bk w9 (w7.heap.size) 24 #[.bool false, .string ⟨#[]⟩, .string ⟨#[]⟩, .int .i64 0, .slice rp 0 rc]) := HXrm.out.below hb HXrm.out.lt
          have HEp : Hid (Ens w9 pp (pl)) := HEp.out.below hb (Nat.le_refl _)
          have HEq : Hid (Ens w9 qp (ql)) := HEq.out.below hb (Nat.le_refl _)
          have HBW : Hid (Below w.heap.size w w9) := HBW.out.trans (hb.mono HBW.out.size)
          obtain ⟨af, alo, ahi, ar, ap, an, ac, al, rfl, rfl, han, hae, hnla⟩ := hga.parts
          obtain ⟨bf, blo, bhi, br, bp, bn, bc, bl, rfl, rfl, hbn, hbe, hnlb⟩ := hgb.parts
          have HSP : Hid (Pg.split ⟨false, plo, phi, pr, pl⟩ id = (⟨af, alo, ahi, ar, al⟩, ⟨bf, blo, bhi, br, bl⟩, k)) := hsp
          have HEa : Hid (Ens w9 ap (al)) := hae
          have HEb : Hid (Ens w9 bp (bl)) := hbe
          have HNa : Hid (al.length = an) := han
          have HNb : Hid (bl.length = bn) := hbn
          have HLa : Hid (ap = none → an = 0 ∧ ac = 0) := hnla
          have HLb : Hid (bp = none → bn = 0 ∧ bc = 0) := hnlb
          clear hsp hga hgb hb hae hbe han hbn hnla hnlb
          by_cases hk : k = 0
          · subst hk
            obtain ⟨i, m, x, y, hil, hid1, hgx, hgy, hpt, hse⟩ := Pg.split_ok (g := ⟨false, plo, phi, pr, pl⟩) (id := id) (by rw [HSP.out])
            rw [HSP.out] at hse
            simp only [Prod.mk.injEq, Pp.mk.injEq, and_true] at hse
            obtain ⟨⟨u1, u2, u3, u4, u5⟩, ⟨u6, u7, u8, u9, u0⟩⟩ := hse
            obtain rfl := u1.symm
            obtain rfl := u2.symm
            obtain rfl := u3.symm
            obtain rfl := u4.symm
            obtain rfl := u5.symm
            obtain rfl := u6.symm
            obtain rfl := u7.symm
            obtain rfl := u8.symm
            obtain rfl := u9.symm
            obtain rfl := u0.symm
            simp only at hil hgx hgy hpt
            have hms := Pg.may_split HMAY.out hid1 hgx hgy hpt
            have HMA : Hid (Pg.may false ⟨plo, m⟩ id (pl.take (i + 1)) = true) := hms.1
            have HMB : Hid (Pg.may false ⟨m, phi⟩ pr (pl.drop (i + 1)) = true) := hms.2
            have HMG : Hid (Pg.merge ⟨false, plo, m, id, pl.take (i + 1)⟩ ⟨false, m, phi, pr, pl.drop (i + 1)⟩ = (⟨false, plo, phi, pr, pl⟩, 0)) := Pg.merge_back (Pg.part_facts hpt (HRS.out i x y hgx hgy)).2.2
            have hbA : an ≤ 3518437208780 := by have h1 := HNa.out; have h2 := HP.out.lenq; rw [List.length_take] at h1; omega
            have hbB : bn ≤ 3518437208780 := by have h1 := HNb.out; have h2 := HP.out.lenq; rw [List.length_drop] at h1; omega
            have hbS : an + bn = pn := by have h1 := HNa.out; have h2 := HP.out.lenq; have h3 := HNb.out; rw [List.length_take] at h1; rw [List.length_drop] at h3; omega
            clear hil hid1 hgx hgy hpt hms HSP
            obtain ⟨w10, hw10⟩ : ∃ w10, (w9.alloc (.cells #[.bool false, .string plo, .string m, .int .i64 id, .slice ap an ac] 24)).alloc (.cells #[.bool false, .string m, .string phi, .int .i64 pr, .slice bp bn bc] 24) = w10 := ⟨_, rfl⟩
            have hb : Below w9.heap.size w9 w10 := by rw [← hw10]; exact ((Below.refl _ _).alloc (Nat.le_refl _) _).alloc (by simp) _
            have HXa : Hid (Bk w10 (w9.heap.size) 24 #[.bool false, .string plo, .string m, .int .i64 id, .slice ap an ac]) := by rw [← hw10]; exact (Bk.new _ _ _).alloc _
            have HXb : Hid (Bk w10 (w9.heap.size + 1) 24 #[.bool false, .string m, .string phi, .int .i64 pr, .slice bp bn bc]) := by rw [← hw10]; exact Bk.new1 _ _ _ _
            have HXp : Hid (Bk w10 (w.heap.size) 24 #[.bool false, .string plo, .string phi, .int .i64 pr, .slice pp pn pc]) := HXp.out.below hb HXp.out.lt
            have HXe : Hid (Bk w10 (w.heap.size + 1) 28 #[.string ek, .int .i64 0, .int .i64 0, .int .i64 (max ec 1)]) := HXe.out.below hb HXe.out.lt
            have HXq : Hid (Bk w10 (w4.heap.size) 24 #[.bool false, .string plo, .string phi, .int .i64 pr, .slice qp qn qc]) := HXq.out.below hb HXq.out.lt
            have HXrm : Hid (Bk w10 (w7.heap.size) 24 #[.bool false, .string ⟨#[]⟩, .string ⟨#[]⟩, .int .i64 0, .slice rp 0 rc]) := HXrm.out.below hb HXrm.out.lt
            have HEp : Hid (Ens w10 pp (pl)) := HEp.out.below hb (Nat.le_refl _)
            have HEq : Hid (Ens w10 qp (ql)) := HEq.out.below hb (Nat.le_refl _)
            have HEa : Hid (Ens w10 ap (pl.take (i + 1))) := HEa.out.below hb (Nat.le_refl _)
            have HEb : Hid (Ens w10 bp (pl.drop (i + 1))) := HEb.out.below hb (Nat.le_refl _)
            have HBW : Hid (Below w.heap.size w w10) := HBW.out.trans (hb.mono HBW.out.size)
            clear hb
            have a_0 : w10.cell? ⟨w9.heap.size, 0, none⟩ = some (.bool false) := HXa.out.cell 0
            have a_1 : w10.cell? ⟨w9.heap.size, 1, none⟩ = some (.string plo) := HXa.out.cell 1
            have a_2 : w10.cell? ⟨w9.heap.size, 2, none⟩ = some (.string m) := HXa.out.cell 2
            have a_3 : w10.cell? ⟨w9.heap.size, 3, none⟩ = some (.int .i64 id) := HXa.out.cell 3
            have a_4 : w10.cell? ⟨w9.heap.size, 4, none⟩ = some (.slice ap an ac) := HXa.out.cell 4
            have b_0 : w10.cell? ⟨w9.heap.size + 1, 0, none⟩ = some (.bool false) := HXb.out.cell 0
            have b_1 : w10.cell? ⟨w9.heap.size + 1, 1, none⟩ = some (.string m) := HXb.out.cell 1
            have b_2 : w10.cell? ⟨w9.heap.size + 1, 2, none⟩ = some (.string phi) := HXb.out.cell 2
            have b_3 : w10.cell? ⟨w9.heap.size + 1, 3, none⟩ = some (.int .i64 pr) := HXb.out.cell 3
            have b_4 : w10.cell? ⟨w9.heap.size + 1, 4, none⟩ = some (.slice bp bn bc) := HXb.out.cell 4
            go_wp2_with fail
            clear hw10 a_0 a_1 a_2 a_3 a_4 b_0 b_1 b_2 b_3 b_4
            refine (check_any false plo m id ap an ac (pl.take (i + 1)) _ HNa.out HEa.out (by omega)).mono ?_
            rw [HMA.out]
            simp only [if_true]
            rintro x w11 ⟨rfl, hb⟩
            have HXp : Hid (Bk w11 (w.heap.size) 24 #[.bool false, .string plo, .string phi, .int .i64 pr, .slice pp pn pc]) := HXp.out.below hb HXp.out.lt
            have HXe : Hid (Bk w11 (w.heap.size + 1) 28 #[.string ek, .int .i64 0, .int .i64 0, .int .i64 (max ec 1)]) := HXe.out.below hb HXe.out.lt
            have HXq : Hid (Bk w11 (w4.heap.size) 24 #[.bool false, .string plo, .string phi, .int .i64 pr, .slice qp qn qc]) := HXq.out.below hb HXq.out.lt
            have HXrm : Hid (Bk w11 (w7.heap.size) 24 #[.bool false, .string ⟨#[]⟩, .string ⟨#[]⟩, .int .i64 0, .slice rp 0 rc]) := HXrm.out.below hb HXrm.out.lt
            have HXa : Hid (Bk w11 (w9.heap.size) 24 #[.bool false, .string plo, .string m, .int .i64 id, .slice ap an ac]) := HXa.out.below hb HXa.out.lt
            have HXb : Hid (Bk w11 (w9.heap.size + 1) 24 #[.bool false, .string m, .string phi, .int .i64 pr, .slice bp bn bc]) := HXb.out.below hb HXb.out.lt
            have HEp : Hid (Ens w11 pp (pl)) := HEp.out.below hb (Nat.le_refl _)
            have HEq : Hid (Ens w11 qp (ql)) := HEq.out.below hb (Nat.le_refl _)
            have HEa : Hid (Ens w11 ap (pl.take (i + 1))) := HEa.out.below hb (Nat.le_refl _)
            have HEb : Hid (Ens w11 bp (pl.drop (i + 1))) := HEb.out.below hb (Nat.le_refl _)
            have HBW : Hid (Below w.heap.size w w11) := HBW.out.trans (hb.mono HBW.out.size)
            clear hb
            have a_0 : w11.cell? ⟨w9.heap.size, 0, none⟩ = some (.bool false) := HXa.out.cell 0
            have a_1 : w11.cell? ⟨w9.heap.size, 1, none⟩ = some (.string plo) := HXa.out.cell 1
            have a_2 : w11.cell? ⟨w9.heap.size, 2, none⟩ = some (.string m) := HXa.out.cell 2
            have a_3 : w11.cell? ⟨w9.heap.size, 3, none⟩ = some (.int .i64 id) := HXa.out.cell 3
            have a_4 : w11.cell? ⟨w9.heap.size, 4, none⟩ = some (.slice ap an ac) := HXa.out.cell 4
            have b_0 : w11.cell? ⟨w9.heap.size + 1, 0, none⟩ = some (.bool false) := HXb.out.cell 0
            have b_1 : w11.cell? ⟨w9.heap.size + 1, 1, none⟩ = some (.string m) := HXb.out.cell 1
            have b_2 : w11.cell? ⟨w9.heap.size + 1, 2, none⟩ = some (.string phi) := HXb.out.cell 2
            have b_3 : w11.cell? ⟨w9.heap.size + 1, 3, none⟩ = some (.int .i64 pr) := HXb.out.cell 3
            have b_4 : w11.cell? ⟨w9.heap.size + 1, 4, none⟩ = some (.slice bp bn bc) := HXb.out.cell 4
            go_wp2_with fail
            clear a_0 a_1 a_2 a_3 a_4 b_0 b_1 b_2 b_3 b_4
            refine (check_any false m phi pr bp bn bc (pl.drop (i + 1)) _ HNb.out HEb.out (by omega)).mono ?_
            rw [HMB.out]
            simp only [if_true]
            rintro x w12 ⟨rfl, hb⟩
            have HXp : Hid (Bk w12 (w.heap.size) 24 #[.bool false, .string plo, .string phi, .int .i64 pr, .slice pp pn pc]) := HXp.out.below hb HXp.out.lt
            have HXe : Hid (Bk w12 (w.heap.size + 1) 28 #[.string ek, .int .i64 0, .int .i64 0, .int .i64 (max ec 1)]) := HXe.out.below hb HXe.out.lt
            have HXq : Hid (Bk w12 (w4.heap.size) 24 #[.bool false, .string plo, .string phi, .int .i64 pr, .slice qp qn qc]) := HXq.out.below hb HXq.out.lt
            have HXrm : Hid (Bk w12 (w7.heap.size) 24 #[.bool false, .string ⟨#[]⟩, .string ⟨#[]⟩, .int .i64 0, .slice rp 0 rc]) := HXrm.out.below hb HXrm.out.lt
            have HXa : Hid (Bk w12 (w9.heap.size) 24 #[.bool false, .string plo, .string m, .int .i64 id, .slice ap an ac]) := HXa.out.below hb HXa.out.lt
            have HXb : Hid (Bk w12 (w9.heap.size + 1) 24 #[.bool false, .string m, .string phi, .int .i64 pr, .slice bp bn bc]) := HXb.out.below hb HXb.out.lt
            have HEp : Hid (Ens w12 pp (pl)) := HEp.out.below hb (Nat.le_refl _)
            have HEq : Hid (Ens w12 qp (ql)) := HEq.out.below hb (Nat.le_refl _)
            have HEa : Hid (Ens w12 ap (pl.take (i + 1))) := HEa.out.below hb (Nat.le_refl _)
            have HEb : Hid (Ens w12 bp (pl.drop (i + 1))) := HEb.out.below hb (Nat.le_refl _)
            have HBW : Hid (Below w.heap.size w w12) := HBW.out.trans (hb.mono HBW.out.size)
            clear hb
            have hidn : (id != id) = false := by simp
            have a_0 : w12.cell? ⟨w9.heap.size, 0, none⟩ = some (.bool false) := HXa.out.cell 0
            have a_1 : w12.cell? ⟨w9.heap.size, 1, none⟩ = some (.string plo) := HXa.out.cell 1
            have a_2 : w12.cell? ⟨w9.heap.size, 2, none⟩ = some (.string m) := HXa.out.cell 2
            have a_3 : w12.cell? ⟨w9.heap.size, 3, none⟩ = some (.int .i64 id) := HXa.out.cell 3
            have a_4 : w12.cell? ⟨w9.heap.size, 4, none⟩ = some (.slice ap an ac) := HXa.out.cell 4
            have b_0 : w12.cell? ⟨w9.heap.size + 1, 0, none⟩ = some (.bool false) := HXb.out.cell 0
            have b_1 : w12.cell? ⟨w9.heap.size + 1, 1, none⟩ = some (.string m) := HXb.out.cell 1
            have b_2 : w12.cell? ⟨w9.heap.size + 1, 2, none⟩ = some (.string phi) := HXb.out.cell 2
            have b_3 : w12.cell? ⟨w9.heap.size + 1, 3, none⟩ = some (.int .i64 pr) := HXb.out.cell 3
            have b_4 : w12.cell? ⟨w9.heap.size + 1, 4, none⟩ = some (.slice bp bn bc) := HXb.out.cell 4
            go_wp2_with fail
            clear a_0 a_1 a_2 a_3 a_4 b_0 b_1 b_2 b_3 b_4
            refine (merge_any ⟨false, plo, m, id, pl.take (i + 1)⟩ ⟨false, m, phi, pr, pl.drop (i + 1)⟩ ap bp an bn ac bc _ HNa.out HNb.out HEa.out HEb.out HLa.out HLb.out (by omega) (by omega)).mono ?_
            rw [HMG.out]
            rintro x w13 ⟨v, rfl, hgm, hb⟩
            have HXp : Hid (Bk w13 (w.heap.size) 24 #[.bool false, .string plo, .string phi, .int .i64 pr, .slice pp pn pc]) := HXp.out.below hb HXp.out.lt
            have HXe : Hid (Bk w13 (w.heap.size + 1) 28 #[.string ek, .int .i64 0, .int .i64 0, .int .i64 (max ec 1)]) := HXe.out.below hb HXe.out.lt
            have HXq : Hid (Bk w13 (w4.heap.size) 24 #[.bool false, .string plo, .string phi, .int .i64 pr, .slice qp qn qc]) := HXq.out.below hb HXq.out.lt
            have HXrm : Hid (Bk w13 (w7.heap.size) 24 #[.bool false, .string ⟨#[]⟩, .string ⟨#[]⟩, .int .i64 0, .slice rp 0 rc]) := HXrm.out.below hb HXrm.out.lt
            have HXa : Hid (Bk w13 (w9.heap.size) 24 #[.bool false, .string plo, .string m, .int .i64 id, .slice ap an ac]) := HXa.out.below hb HXa.out.lt
            have HXb : Hid (Bk w13 (w9.heap.size + 1) 24 #[.bool false, .string m, .string phi, .int .i64 pr, .slice bp bn bc]) := HXb.out.below hb HXb.out.lt
            have HEp : Hid (Ens w13 pp (pl)) := HEp.out.below hb (Nat.le_refl _)
            have HEq : Hid (Ens w13 qp (ql)) := HEq.out.below hb (Nat.le_refl _)
            have HEa : Hid (Ens w13 ap (pl.take (i + 1))) := HEa.out.below hb (Nat.le_refl _)
            have HEb : Hid (Ens w13 bp (pl.drop (i + 1))) := HEb.out.below hb (Nat.le_refl _)
            have HBW : Hid (Below w.heap.size w w13) := HBW.out.trans (hb.mono HBW.out.size)
            obtain ⟨mf, mlo, mhi, mr, mp, mn, mc, ml, hmq, rfl, hmn, hme, -⟩ := hgm.parts
            simp only [Pp.mk.injEq] at hmq
            obtain ⟨rfl, rfl, rfl, rfl, rfl⟩ := hmq
            obtain rfl : pn = mn := by rw [← HP.out.lenq, ← hmn]
            have HEm : Hid (Ens w13 mp (pl)) := hme
            clear hb hgm hme hmn
            obtain ⟨w14, hw14⟩ : ∃ w14, w13.alloc (.cells #[.bool false, .string plo, .string phi, .int .i64 pr, .slice mp pn mc] 24) = w14 := ⟨_, rfl⟩
            have hb : Below w13.heap.size w13 w14 := by rw [← hw14]; exact (Below.refl _ _).alloc (Nat.le_refl _) _
            have HXm : Hid (Bk w14 w13.heap.size 24 #[.bool false, .string plo, .string phi, .int .i64 pr, .slice mp pn mc]) := by rw [← hw14]; exact Bk.new _ _ _
            have HXp : Hid (Bk w14 (w.heap.size) 24 #[.bool false, .string plo, .string phi, .int .i64 pr, .slice pp pn pc]) := HXp.out.below hb HXp.out.lt
            have HXe : Hid (Bk w14 (w.heap.size + 1) 28 #[.string ek, .int .i64 0, .int .i64 0, .int .i64 (max ec 1)]) := HXe.out.below hb HXe.out.lt
            have HXq : Hid (Bk w14 (w4.heap.size) 24 #[.bool false, .string plo, .string phi, .int .i64 pr, .slice qp qn qc]) := HXq.out.below hb HXq.out.lt
            have HXrm : Hid (Bk w14 (w7.heap.size) 24 #[.bool false, .string ⟨#[]⟩, .string ⟨#[]⟩, .int .i64 0, .slice rp 0 rc]) := HXrm.out.below hb HXrm.out.lt
            have HXa : Hid (Bk w14 (w9.heap.size) 24 #[.bool false, .string plo, .string m, .int .i64 id, .slice ap an ac]) := HXa.out.below hb HXa.out.lt
            have HXb : Hid (Bk w14 (w9.heap.size + 1) 24 #[.bool false, .string m, .string phi, .int .i64 pr, .slice bp bn bc]) := HXb.out.below hb HXb.out.lt
            have HEp : Hid (Ens w14 pp (pl)) := HEp.out.below hb (Nat.le_refl _)
            have HEq : Hid (Ens w14 qp (ql)) := HEq.out.below hb (Nat.le_refl _)
            have HEa : Hid (Ens w14 ap (pl.take (i + 1))) := HEa.out.below hb (Nat.le_refl _)
            have HEb : Hid (Ens w14 bp (pl.drop (i + 1))) := HEb.out.below hb (Nat.le_refl _)
            have HEm : Hid (Ens w14 mp (pl)) := HEm.out.below hb (Nat.le_refl _)
            have HBW : Hid (Below w.heap.size w w14) := HBW.out.trans (hb.mono HBW.out.size)
            clear hb
            have m_0 : w14.cell? ⟨w13.heap.size, 0, none⟩ = some (.bool false) := HXm.out.cell 0
            have m_1 : w14.cell? ⟨w13.heap.size, 1, none⟩ = some (.string plo) := HXm.out.cell 1
            have m_2 : w14.cell? ⟨w13.heap.size, 2, none⟩ = some (.string phi) := HXm.out.cell 2
            have m_3 : w14.cell? ⟨w13.heap.size, 3, none⟩ = some (.int .i64 pr) := HXm.out.cell 3
            have m_4 : w14.cell? ⟨w13.heap.size, 4, none⟩ = some (.slice mp pn mc) := HXm.out.cell 4
            have p_0 : w14.cell? ⟨w.heap.size, 0, none⟩ = some (.bool false) := HXp.out.cell 0
            have p_1 : w14.cell? ⟨w.heap.size, 1, none⟩ = some (.string plo) := HXp.out.cell 1
            have p_2 : w14.cell? ⟨w.heap.size, 2, none⟩ = some (.string phi) := HXp.out.cell 2
            have p_3 : w14.cell? ⟨w.heap.size, 3, none⟩ = some (.int .i64 pr) := HXp.out.cell 3
            have p_4 : w14.cell? ⟨w.heap.size, 4, none⟩ = some (.slice pp pn pc) := HXp.out.cell 4
            go_wp2_with fail
            clear hw14 m_0 m_1 m_2 m_3 m_4 p_0 p_1 p_2 p_3 p_4
            refine (same_any ⟨false, plo, phi, pr, pl⟩ ⟨false, plo, phi, pr, pl⟩ mp pp pn pn mc pc _ HP.out.lenq HP.out.lenq HEm.out HEp.out (by omega)).mono ?_
            rw [Pg.same_self]
            rintro x w15 ⟨rfl, hb⟩
            have HXp : Hid (Bk w15 (w.heap.size) 24 #[.bool false, .string plo, .string phi, .int .i64 pr, .slice pp pn pc]) := HXp.out.below hb HXp.out.lt
            have HXe : Hid (Bk w15 (w.heap.size + 1) 28 #[.string ek, .int .i64 0, .int .i64 0, .int .i64 (max ec 1)]) := HXe.out.below hb HXe.out.lt
            have HXq : Hid (Bk w15 (w4.heap.size) 24 #[.bool false, .string plo, .string phi, .int .i64 pr, .slice qp qn qc]) := HXq.out.below hb HXq.out.lt
            have HXrm : Hid (Bk w15 (w7.heap.size) 24 #[.bool false, .string ⟨#[]⟩, .string ⟨#[]⟩, .int .i64 0, .slice rp 0 rc]) := HXrm.out.below hb HXrm.out.lt
            have HXa : Hid (Bk w15 (w9.heap.size) 24 #[.bool false, .string plo, .string m, .int .i64 id, .slice ap an ac]) := HXa.out.below hb HXa.out.lt
            have HXb : Hid (Bk w15 (w9.heap.size + 1) 24 #[.bool false, .string m, .string phi, .int .i64 pr, .slice bp bn bc]) := HXb.out.below hb HXb.out.lt
            have HXm : Hid (Bk w15 (w13.heap.size) 24 #[.bool false, .string plo, .string phi, .int .i64 pr, .slice mp pn mc]) := HXm.out.below hb HXm.out.lt
            have HEp : Hid (Ens w15 pp (pl)) := HEp.out.below hb (Nat.le_refl _)
            have HEq : Hid (Ens w15 qp (ql)) := HEq.out.below hb (Nat.le_refl _)
            have HEa : Hid (Ens w15 ap (pl.take (i + 1))) := HEa.out.below hb (Nat.le_refl _)
            have HEb : Hid (Ens w15 bp (pl.drop (i + 1))) := HEb.out.below hb (Nat.le_refl _)
            have HEm : Hid (Ens w15 mp (pl)) := HEm.out.below hb (Nat.le_refl _)
            have HBW : Hid (Below w.heap.size w w15) := HBW.out.trans (hb.mono HBW.out.size)
            clear hb
            go_wp2
            go_ret
            exact ⟨rfl, HBW.out⟩
          · have hno := Pg.split_no (g := ⟨false, plo, phi, pr, pl⟩) (id := id) HRS.out (by rw [HSP.out]; exact hk)
            have hkn : (k != 0) = true := by simp [hk]
            obtain ⟨w10, hw10⟩ : ∃ w10, (w9.alloc (.cells #[.bool af, .string alo, .string ahi, .int .i64 ar, .slice ap an ac] 24)).alloc (.cells #[.bool bf, .string blo, .string bhi, .int .i64 br, .slice bp bn bc] 24) = w10 := ⟨_, rfl⟩
            have hb : Below w9.heap.size w9 w10 := by rw [← hw10]; exact ((Below.refl _ _).alloc (Nat.le_refl _) _).alloc (by simp) _
            have HXa : Hid (Bk w10 (w9.heap.size) 24 #[.bool af, .string alo, .string ahi, .int .i64 ar, .slice ap an ac]) := by rw [← hw10]; exact (Bk.new _ _ _).alloc _
            have HXb : Hid (Bk w10 (w9.heap.size + 1) 24 #[.bool bf, .string blo, .string bhi, .int .i64 br, .slice bp bn bc]) := by rw [← hw10]; exact Bk.new1 _ _ _ _
            have HXp : Hid (Bk w10 (w.heap.size) 24 #[.bool false, .string plo, .string phi, .int .i64 pr, .slice pp pn pc]) := HXp.out.below hb HXp.out.lt
            have HXe : Hid (Bk w10 (w.heap.size + 1) 28 #[.string ek, .int .i64 0, .int .i64 0, .int .i64 (max ec 1)]) := HXe.out.below hb HXe.out.lt
            have HXq : Hid (Bk w10 (w4.heap.size) 24 #[.bool false, .string plo, .string phi, .int .i64 pr, .slice qp qn qc]) := HXq.out.below hb HXq.out.lt
            have HXrm : Hid (Bk w10 (w7.heap.size) 24 #[.bool false, .string ⟨#[]⟩, .string ⟨#[]⟩, .int .i64 0, .slice rp 0 rc]) := HXrm.out.below hb HXrm.out.lt
            have HEp : Hid (Ens w10 pp (pl)) := HEp.out.below hb (Nat.le_refl _)
            have HEq : Hid (Ens w10 qp (ql)) := HEq.out.below hb (Nat.le_refl _)
            have HEa : Hid (Ens w10 ap (al)) := HEa.out.below hb (Nat.le_refl _)
            have HEb : Hid (Ens w10 bp (bl)) := HEb.out.below hb (Nat.le_refl _)
            have HBW : Hid (Below w.heap.size w w10) := HBW.out.trans (hb.mono HBW.out.size)
            clear hb
            have p_0 : w10.cell? ⟨w.heap.size, 0, none⟩ = some (.bool false) := HXp.out.cell 0
            have p_1 : w10.cell? ⟨w.heap.size, 1, none⟩ = some (.string plo) := HXp.out.cell 1
            have p_2 : w10.cell? ⟨w.heap.size, 2, none⟩ = some (.string phi) := HXp.out.cell 2
            have p_3 : w10.cell? ⟨w.heap.size, 3, none⟩ = some (.int .i64 pr) := HXp.out.cell 3
            have p_4 : w10.cell? ⟨w.heap.size, 4, none⟩ = some (.slice pp pn pc) := HXp.out.cell 4
            rcases hno with hno | hno
            · have hid2 : decide (id < 1) = true := decide_eq_true hno
              go_wp2
              go_ret
              exact ⟨rfl, HBW.out⟩
            · have hl2 : (pn : Int) < 2 := by have := HP.out.lenq; simp only at hno; omega
              by_cases hid2 : id < 1
              · have hid3 : decide (id < 1) = true := decide_eq_true hid2
                go_wp2
                go_ret
                exact ⟨rfl, HBW.out⟩
              · have hid3 : decide (id < 1) = false := decide_eq_false hid2
                go_wp2
                go_ret
                exact ⟨rfl, HBW.out⟩
        | true =>
          have p_0 : w6.cell? ⟨w.heap.size, 0, none⟩ = some (.bool false) := HXp.out.cell 0
          have p_1 : w6.cell? ⟨w.heap.size, 1, none⟩ = some (.string plo) := HXp.out.cell 1
          have p_2 : w6.cell? ⟨w.heap.size, 2, none⟩ = some (.string phi) := HXp.out.cell 2
          have p_3 : w6.cell? ⟨w.heap.size, 3, none⟩ = some (.int .i64 pr) := HXp.out.cell 3
          have p_4 : w6.cell? ⟨w.heap.size, 4, none⟩ = some (.slice pp pn pc) := HXp.out.cell 4
          have e_0 : w6.cell? ⟨w.heap.size + 1, 0, none⟩ = some (.string ek) := HXe.out.cell 0
          have e_1 : w6.cell? ⟨w.heap.size + 1, 1, none⟩ = some (.int .i64 0) := HXe.out.cell 1
          have e_2 : w6.cell? ⟨w.heap.size + 1, 2, none⟩ = some (.int .i64 0) := HXe.out.cell 2
          have e_3 : w6.cell? ⟨w.heap.size + 1, 3, none⟩ = some (.int .i64 (max ec 1)) := HXe.out.cell 3
          go_wp2_with fail
          clear p_0 p_1 p_2 p_3 p_4 e_0 e_1 e_2 e_3
          refine (remove_any false plo phi pr pp pn pc pl ek _ HP.out.lenq HEp.out (by omega)).mono ?_
          have hrm : Pg.remove ⟨false, plo, phi, pr, pl⟩ ek = (⟨false, plo, phi, pr, Pg.del pl (pl.findIdx (Pg.is ek))⟩, 0) := by unfold Pg.remove; rw [hany]; rfl
          rw [hrm]
          clear hrm
          obtain ⟨dl, hdl⟩ : ∃ dl, Pg.del pl (pl.findIdx (Pg.is ek)) = dl := ⟨_, rfl⟩
          have HDL : Hid (Pg.del pl (pl.findIdx (Pg.is ek)) = dl) := hdl
          rw [hdl]
          clear hdl
          rintro x w7 ⟨v, rfl, hga, hb⟩
          have HXp : Hid (Bk w7 (w.heap.size) 24 #[.bool false, .string plo, .string phi, .int .i64 pr, .slice pp pn pc]) := HXp.out.below hb HXp.out.lt
          have HXe : Hid (Bk w7 (w.heap.size + 1) 28 #[.string ek, .int .i64 0, .int .i64 0, .int .i64 (max ec 1)]) := HXe.out.below hb HXe.out.lt
          have HXq : Hid (Bk w7 (w4.heap.size) 24 #[.bool false, .string plo, .string phi, .int .i64 pr, .slice qp qn qc]) := HXq.out.below hb HXq.out.lt
          have HEp : Hid (Ens w7 pp (pl)) := HEp.out.below hb (Nat.le_refl _)
          have HEq : Hid (Ens w7 qp (ql)) := HEq.out.below hb (Nat.le_refl _)
          have HBW : Hid (Below w.heap.size w w7) := HBW.out.trans (hb.mono HBW.out.size)
          obtain ⟨rf, rlo, rhi, rr, rp, rn, rc, rl, hrq, rfl, hrn, hre, -⟩ := hga.parts
          simp only [Pp.mk.injEq] at hrq
          obtain ⟨rfl, rfl, rfl, rfl, rfl⟩ := hrq
          have HNr : Hid (dl.length = rn) := hrn
          have hrb : rn ≤ 3518437208780 := by have h1 := Pg.del_le pl (pl.findIdx (Pg.is ek)); rw [HDL.out] at h1; have h2 := HP.out.lenq; omega
          have HEr : Hid (Ens w7 rp (dl)) := hre
          clear hb hga hrn hre
          obtain ⟨w8, hw8⟩ : ∃ w8, w7.alloc (.cells #[.bool false, .string plo, .string phi, .int .i64 pr, .slice rp rn rc] 24) = w8 := ⟨_, rfl⟩
          have hb : Below w7.heap.size w7 w8 := by rw [← hw8]; exact (Below.refl _ _).alloc (Nat.le_refl _) _
          have HXrm : Hid (Bk w8 w7.heap.size 24 #[.bool false, .string plo, .string phi, .int .i64 pr, .slice rp rn rc]) := by rw [← hw8]; exact Bk.new _ _ _
          have HXp : Hid (Bk w8 (w.heap.size) 24 #[.bool false, .string plo, .string phi, .int .i64 pr, .slice pp pn pc]) := HXp.out.below hb HXp.out.lt
          have HXe : Hid (Bk w8 (w.heap.size + 1) 28 #[.string ek, .int .i64 0, .int .i64 0, .int .i64 (max ec 1)]) := HXe.out.below hb HXe.out.lt
          have HXq : Hid (Bk w8 (w4.heap.size) 24 #[.bool false, .string plo, .string phi, .int .i64 pr, .slice qp qn qc]) := HXq.out.below hb HXq.out.lt
          have HEp : Hid (Ens w8 pp (pl)) := HEp.out.below hb (Nat.le_refl _)
          have HEq : Hid (Ens w8 qp (ql)) := HEq.out.below hb (Nat.le_refl _)
          have HEr : Hid (Ens w8 rp (dl)) := HEr.out.below hb (Nat.le_refl _)
          have HBW : Hid (Below w.heap.size w w8) := HBW.out.trans (hb.mono HBW.out.size)
          clear hb
          have rm_0 : w8.cell? ⟨w7.heap.size, 0, none⟩ = some (.bool false) := HXrm.out.cell 0
          have rm_1 : w8.cell? ⟨w7.heap.size, 1, none⟩ = some (.string plo) := HXrm.out.cell 1
          have rm_2 : w8.cell? ⟨w7.heap.size, 2, none⟩ = some (.string phi) := HXrm.out.cell 2
          have rm_3 : w8.cell? ⟨w7.heap.size, 3, none⟩ = some (.int .i64 pr) := HXrm.out.cell 3
          have rm_4 : w8.cell? ⟨w7.heap.size, 4, none⟩ = some (.slice rp rn rc) := HXrm.out.cell 4
          have p_0 : w8.cell? ⟨w.heap.size, 0, none⟩ = some (.bool false) := HXp.out.cell 0
          have p_1 : w8.cell? ⟨w.heap.size, 1, none⟩ = some (.string plo) := HXp.out.cell 1
          have p_2 : w8.cell? ⟨w.heap.size, 2, none⟩ = some (.string phi) := HXp.out.cell 2
          have p_3 : w8.cell? ⟨w.heap.size, 3, none⟩ = some (.int .i64 pr) := HXp.out.cell 3
          have p_4 : w8.cell? ⟨w.heap.size, 4, none⟩ = some (.slice pp pn pc) := HXp.out.cell 4
          have e_0 : w8.cell? ⟨w.heap.size + 1, 0, none⟩ = some (.string ek) := HXe.out.cell 0
          have e_1 : w8.cell? ⟨w.heap.size + 1, 1, none⟩ = some (.int .i64 0) := HXe.out.cell 1
          have e_2 : w8.cell? ⟨w.heap.size + 1, 2, none⟩ = some (.int .i64 0) := HXe.out.cell 2
          have e_3 : w8.cell? ⟨w.heap.size + 1, 3, none⟩ = some (.int .i64 (max ec 1)) := HXe.out.cell 3
          cases hmr : Pg.may false ⟨plo, phi⟩ pr dl with
          | true =>
            go_wp2_with fail
            clear hw8 rm_0 rm_1 rm_2 rm_3 rm_4 p_0 p_1 p_2 p_3 p_4 e_0 e_1 e_2 e_3
            refine (check_any false plo phi pr rp rn rc dl _ HNr.out HEr.out (by omega)).mono ?_
            rw [hmr]
            simp only [if_true]
            rintro x w9 ⟨rfl, hb⟩
            have HXp : Hid (Bk w9 (w.heap.size) 24 #[.bool false, .string plo, .string phi, .int .i64 pr, .slice pp pn pc]) := HXp.out.below hb HXp.out.lt
            have HXe : Hid (Bk w9 (w.heap.size + 1) 28 #[.string ek, .int .i64 0, .int .i64 0, .int .i64 (max ec 1)]) := HXe.out.below hb HXe.out.lt
            have HXq : Hid (Bk w9 (w4.heap.size) 24 #[.bool false, .string plo, .string phi, .int .i64 pr, .slice qp qn qc]) := HXq.out.below hb HXq.out.lt
            have HXrm : Hid (Bk w9 (w7.heap.size) 24 #[.bool false, .string plo, .string phi, .int .i64 pr, .slice rp rn rc]) := HXrm.out.below hb HXrm.out.lt
            have HEp : Hid (Ens w9 pp (pl)) := HEp.out.below hb (Nat.le_refl _)
            have HEq : Hid (Ens w9 qp (ql)) := HEq.out.below hb (Nat.le_refl _)
            have HEr : Hid (Ens w9 rp (dl)) := HEr.out.below hb (Nat.le_refl _)
            have HBW : Hid (Below w.heap.size w w9) := HBW.out.trans (hb.mono HBW.out.size)
            clear hb
            have p_0 : w9.cell? ⟨w.heap.size, 0, none⟩ = some (.bool false) := HXp.out.cell 0
            have p_1 : w9.cell? ⟨w.heap.size, 1, none⟩ = some (.string plo) := HXp.out.cell 1
            have p_2 : w9.cell? ⟨w.heap.size, 2, none⟩ = some (.string phi) := HXp.out.cell 2
            have p_3 : w9.cell? ⟨w.heap.size, 3, none⟩ = some (.int .i64 pr) := HXp.out.cell 3
            have p_4 : w9.cell? ⟨w.heap.size, 4, none⟩ = some (.slice pp pn pc) := HXp.out.cell 4
            go_wp2_with fail
            clear p_0 p_1 p_2 p_3 p_4
            refine (split_any false plo phi pr pp pn pc pl id _ HP.out.lenq HEp.out (by omega) HP.out.keys).mono ?_
            obtain ⟨⟨ga, gb, k⟩, hsp⟩ : ∃ o, Pg.split ⟨false, plo, phi, pr, pl⟩ id = o := ⟨_, rfl⟩
            rw [hsp]
            rintro x w10 ⟨v1, v2, rfl, hga, hgb, hb⟩
            have HXp : Hid (Bk w10 (w.heap.size) 24 #[.bool false, .string plo, .string phi, .int .i64 pr, .slice pp pn pc]) := HXp.out.below hb HXp.out.lt
            have HXe : Hid (Bk w10 (w.heap.size + 1) 28 #[.string ek, .int .i64 0, .int .i64 0, .int .i64 (max ec 1)]) := HXe.out.below hb HXe.out.lt
            have HXq : Hid (Bk w10 (w4.heap.size) 24 #[.bool false, .string plo, .string phi, .int .i64 pr, .slice qp qn qc]) := HXq.out.below hb HXq.out.lt
            have HXrm : Hid (Bk w10 (w7.heap.size) 24 #[.bool false, .string plo, .string phi, .int .i64 pr, .slice rp rn rc]) := HXrm.out.below hb HXrm.out.lt
            have HEp : Hid (Ens w10 pp (pl)) := HEp.out.below hb (Nat.le_refl _)
            have HEq : Hid (Ens w10 qp (ql)) := HEq.out.below hb (Nat.le_refl _)
            have HEr : Hid (Ens w10 rp (dl)) := HEr.out.below hb (Nat.le_refl _)
            have HBW : Hid (Below w.heap.size w w10) := HBW.out.trans (hb.mono HBW.out.size)
            obtain ⟨af, alo, ahi, ar, ap, an, ac, al, rfl, rfl, han, hae, hnla⟩ := hga.parts
            obtain ⟨bf, blo, bhi, br, bp, bn, bc, bl, rfl, rfl, hbn, hbe, hnlb⟩ := hgb.parts
            have HSP : Hid (Pg.split ⟨false, plo, phi, pr, pl⟩ id = (⟨af, alo, ahi, ar, al⟩, ⟨bf, blo, bhi, br, bl⟩, k)) := hsp
            have HEa : Hid (Ens w10 ap (al)) := hae
            have HEb : Hid (Ens w10 bp (bl)) := hbe
            have HNa : Hid (al.length = an) := han
            have HNb : Hid (bl.length = bn) := hbn
            have HLa : Hid (ap = none → an = 0 ∧ ac = 0) := hnla
            have HLb : Hid (bp = none → bn = 0 ∧ bc = 0) := hnlb
            clear hsp hga hgb hb hae hbe han hbn hnla hnlb
            by_cases hk : k = 0
            · subst hk
              obtain ⟨i, m, x, y, hil, hid1, hgx, hgy, hpt, hse⟩ := Pg.split_ok (g := ⟨false, plo, phi, pr, pl⟩) (id := id) (by rw [HSP.out])
              rw [HSP.out] at hse
              simp only [Prod.mk.injEq, Pp.mk.injEq, and_true] at hse
              obtain ⟨⟨u1, u2, u3, u4, u5⟩, ⟨u6, u7, u8, u9, u0⟩⟩ := hse
              obtain rfl := u1.symm
              obtain rfl := u2.symm
              obtain rfl := u3.symm
              obtain rfl := u4.symm
              obtain rfl := u5.symm
              obtain rfl := u6.symm
              obtain rfl := u7.symm
              obtain rfl := u8.symm
              obtain rfl := u9.symm
              obtain rfl := u0.symm
              simp only at hil hgx hgy hpt
              have hms := Pg.may_split HMAY.out hid1 hgx hgy hpt
              have HMA : Hid (Pg.may false ⟨plo, m⟩ id (pl.take (i + 1)) = true) := hms.1
              have HMB : Hid (Pg.may false ⟨m, phi⟩ pr (pl.drop (i + 1)) = true) := hms.2
              have HMG : Hid (Pg.merge ⟨false, plo, m, id, pl.take (i + 1)⟩ ⟨false, m, phi, pr, pl.drop (i + 1)⟩ = (⟨false, plo, phi, pr, pl⟩, 0)) := Pg.merge_back (Pg.part_facts hpt (HRS.out i x y hgx hgy)).2.2
              have hbA : an ≤ 3518437208780 := by have h1 := HNa.out; have h2 := HP.out.lenq; rw [List.length_take] at h1; omega
              have hbB : bn ≤ 3518437208780 := by have h1 := HNb.out; have h2 := HP.out.lenq; rw [List.length_drop] at h1; omega
              have hbS : an + bn = pn := by have h1 := HNa.out; have h2 := HP.out.lenq; have h3 := HNb.out; rw [List.length_take] at h1; rw [List.length_drop] at h3; omega
              clear hil hid1 hgx hgy hpt hms HSP
              obtain ⟨w11, hw11⟩ : ∃ w11, (w10.alloc (.cells #[.bool false, .string plo, .string m, .int .i64 id, .slice ap an ac] 24)).alloc (.cells #[.bool false, .string m, .string phi, .int .i64 pr, .slice bp bn bc] 24) = w11 := ⟨_, rfl⟩
              have hb : Below w10.heap.size w10 w11 := by rw [← hw11]; exact ((Below.refl _ _).alloc (Nat.le_refl _) _).alloc (by simp) _
              have HXa : Hid (Bk w11 (w10.heap.size) 24 #[.bool false, .string plo, .string m, .int .i64 id, .slice ap an ac]) := by rw [← hw11]; exact (Bk.new _ _ _).alloc _
              have HXb : Hid (Bk w11 (w10.heap.size + 1) 24 #[.bool false, .string m, .string phi, .int .i64 pr, .slice bp bn bc]) := by rw [← hw11]; exact Bk.new1 _ _ _ _
              have HXp : Hid (Bk w11 (w.heap.size) 24 #[.bool false, .string plo, .string phi, .int .i64 pr, .slice pp pn pc]) := HXp.out.below hb HXp.out.lt
              have HXe : Hid (Bk w11 (w.heap.size + 1) 28 #[.string ek, .int .i64 0, .int .i64 0, .int .i64 (max ec 1)]) := HXe.out.below hb HXe.out.lt
              have HXq : Hid (Bk w11 (w4.heap.size) 24 #[.bool false, .string plo, .string phi, .int .i64 pr, .slice qp qn qc]) := HXq.out.below hb HXq.out.lt
              have HXrm : Hid (Bk w11 (w7.heap.size) 24 #[.bool false, .string plo, .string phi, .int .i64 pr, .slice rp rn rc]) := HXrm.out.below hb HXrm.out.lt
              have HEp : Hid (Ens w11 pp (pl)) := HEp.out.below hb (Nat.le_refl _)
              have HEq : Hid (Ens w11 qp (ql)) := HEq.out.below hb (Nat.le_refl _)
              have HEr : Hid (Ens w11 rp (dl)) := HEr.out.below hb (Nat.le_refl _)
              have HEa : Hid (Ens w11 ap (pl.take (i + 1))) := HEa.out.below hb (Nat.le_refl _)
              have HEb : Hid (Ens w11 bp (pl.drop (i + 1))) := HEb.out.below hb (Nat.le_refl _)
              have HBW : Hid (Below w.heap.size w w11) := HBW.out.trans (hb.mono HBW.out.size)
              clear hb
              have a_0 : w11.cell? ⟨w10.heap.size, 0, none⟩ = some (.bool false) := HXa.out.cell 0
              have a_1 : w11.cell? ⟨w10.heap.size, 1, none⟩ = some (.string plo) := HXa.out.cell 1
              have a_2 : w11.cell? ⟨w10.heap.size, 2, none⟩ = some (.string m) := HXa.out.cell 2
              have a_3 : w11.cell? ⟨w10.heap.size, 3, none⟩ = some (.int .i64 id) := HXa.out.cell 3
              have a_4 : w11.cell? ⟨w10.heap.size, 4, none⟩ = some (.slice ap an ac) := HXa.out.cell 4
              have b_0 : w11.cell? ⟨w10.heap.size + 1, 0, none⟩ = some (.bool false) := HXb.out.cell 0
              have b_1 : w11.cell? ⟨w10.heap.size + 1, 1, none⟩ = some (.string m) := HXb.out.cell 1
              have b_2 : w11.cell? ⟨w10.heap.size + 1, 2, none⟩ = some (.string phi) := HXb.out.cell 2
              have b_3 : w11.cell? ⟨w10.heap.size + 1, 3, none⟩ = some (.int .i64 pr) := HXb.out.cell 3
              have b_4 : w11.cell? ⟨w10.heap.size + 1, 4, none⟩ = some (.slice bp bn bc) := HXb.out.cell 4
              go_wp2_with fail
              clear hw11 a_0 a_1 a_2 a_3 a_4 b_0 b_1 b_2 b_3 b_4
              refine (check_any false plo m id ap an ac (pl.take (i + 1)) _ HNa.out HEa.out (by omega)).mono ?_
              rw [HMA.out]
              simp only [if_true]
              rintro x w12 ⟨rfl, hb⟩
              have HXp : Hid (Bk w12 (w.heap.size) 24 #[.bool false, .string plo, .string phi, .int .i64 pr, .slice pp pn pc]) := HXp.out.below hb HXp.out.lt
              have HXe : Hid (Bk w12 (w.heap.size + 1) 28 #[.string ek, .int .i64 0, .int .i64 0, .int .i64 (max ec 1)]) := HXe.out.below hb HXe.out.lt
              have HXq : Hid (Bk w12 (w4.heap.size) 24 #[.bool false, .string plo, .string phi, .int .i64 pr, .slice qp qn qc]) := HXq.out.below hb HXq.out.lt
              have HXrm : Hid (Bk w12 (w7.heap.size) 24 #[.bool false, .string plo, .string phi, .int .i64 pr, .slice rp rn rc]) := HXrm.out.below hb HXrm.out.lt
              have HXa : Hid (Bk w12 (w10.heap.size) 24 #[.bool false, .string plo, .string m, .int .i64 id, .slice ap an ac]) := HXa.out.below hb HXa.out.lt
              have HXb : Hid (Bk w12 (w10.heap.size + 1) 24 #[.bool false, .string m, .string phi, .int .i64 pr, .slice bp bn bc]) := HXb.out.below hb HXb.out.lt
              have HEp : Hid (Ens w12 pp (pl)) := HEp.out.below hb (Nat.le_refl _)
              have HEq : Hid (Ens w12 qp (ql)) := HEq.out.below hb (Nat.le_refl _)
              have HEr : Hid (Ens w12 rp (dl)) := HEr.out.below hb (Nat.le_refl _)
              have HEa : Hid (Ens w12 ap (pl.take (i + 1))) := HEa.out.below hb (Nat.le_refl _)
              have HEb : Hid (Ens w12 bp (pl.drop (i + 1))) := HEb.out.below hb (Nat.le_refl _)
              have HBW : Hid (Below w.heap.size w w12) := HBW.out.trans (hb.mono HBW.out.size)
              clear hb
              have a_0 : w12.cell? ⟨w10.heap.size, 0, none⟩ = some (.bool false) := HXa.out.cell 0
              have a_1 : w12.cell? ⟨w10.heap.size, 1, none⟩ = some (.string plo) := HXa.out.cell 1
              have a_2 : w12.cell? ⟨w10.heap.size, 2, none⟩ = some (.string m) := HXa.out.cell 2
              have a_3 : w12.cell? ⟨w10.heap.size, 3, none⟩ = some (.int .i64 id) := HXa.out.cell 3
              have a_4 : w12.cell? ⟨w10.heap.size, 4, none⟩ = some (.slice ap an ac) := HXa.out.cell 4
              have b_0 : w12.cell? ⟨w10.heap.size + 1, 0, none⟩ = some (.bool false) := HXb.out.cell 0
              have b_1 : w12.cell? ⟨w10.heap.size + 1, 1, none⟩ = some (.string m) := HXb.out.cell 1
              have b_2 : w12.cell? ⟨w10.heap.size + 1, 2, none⟩ = some (.string phi) := HXb.out.cell 2
              have b_3 : w12.cell? ⟨w10.heap.size + 1, 3, none⟩ = some (.int .i64 pr) := HXb.out.cell 3
              have b_4 : w12.cell? ⟨w10.heap.size + 1, 4, none⟩ = some (.slice bp bn bc) := HXb.out.cell 4
              go_wp2_with fail
              clear a_0 a_1 a_2 a_3 a_4 b_0 b_1 b_2 b_3 b_4
              refine (check_any false m phi pr bp bn bc (pl.drop (i + 1)) _ HNb.out HEb.out (by omega)).mono ?_
              rw [HMB.out]
              simp only [if_true]
              rintro x w13 ⟨rfl, hb⟩
              have HXp : Hid (Bk w13 (w.heap.size) 24 #[.bool false, .string plo, .string phi, .int .i64 pr, .slice pp pn pc]) := HXp.out.below hb HXp.out.lt
              have HXe : Hid (Bk w13 (w.heap.size + 1) 28 #[.string ek, .int .i64 0, .int .i64 0, .int .i64 (max ec 1)]) := HXe.out.below hb HXe.out.lt
              have HXq : Hid (Bk w13 (w4.heap.size) 24 #[.bool false, .string plo, .string phi, .int .i64 pr, .slice qp qn qc]) := HXq.out.below hb HXq.out.lt
              have HXrm : Hid (Bk w13 (w7.heap.size) 24 #[.bool false, .string plo, .string phi, .int .i64 pr, .slice rp rn rc]) := HXrm.out.below hb HXrm.out.lt
              have HXa : Hid (Bk w13 (w10.heap.size) 24 #[.bool false, .string plo, .string m, .int .i64 id, .slice ap an ac]) := HXa.out.below hb HXa.out.lt
              have HXb : Hid (Bk w13 (w10.heap.size + 1) 24 #[.bool false, .string m, .string phi, .int .i64 pr, .slice bp bn bc]) := HXb.out.below hb HXb.out.lt
              have HEp : Hid (Ens w13 pp (pl)) := HEp.out.below hb (Nat.le_refl _)
              have HEq : Hid (Ens w13 qp (ql)) := HEq.out.below hb (Nat.le_refl _)
              have HEr : Hid (Ens w13 rp (dl)) := HEr.out.below hb (Nat.le_refl _)
              have HEa : Hid (Ens w13 ap (pl.take (i + 1))) := HEa.out.below hb (Nat.le_refl _)
              have HEb : Hid (Ens w13 bp (pl.drop (i + 1))) := HEb.out.below hb (Nat.le_refl _)
              have HBW : Hid (Below w.heap.size w w13) := HBW.out.trans (hb.mono HBW.out.size)
              clear hb
              have hidn : (id != id) = false := by simp
              have a_0 : w13.cell? ⟨w10.heap.size, 0, none⟩ = some (.bool false) := HXa.out.cell 0
              have a_1 : w13.cell? ⟨w10.heap.size, 1, none⟩ = some (.string plo) := HXa.out.cell 1
              have a_2 : w13.cell? ⟨w10.heap.size, 2, none⟩ = some (.string m) := HXa.out.cell 2
              have a_3 : w13.cell? ⟨w10.heap.size, 3, none⟩ = some (.int .i64 id) := HXa.out.cell 3
              have a_4 : w13.cell? ⟨w10.heap.size, 4, none⟩ = some (.slice ap an ac) := HXa.out.cell 4
              have b_0 : w13.cell? ⟨w10.heap.size + 1, 0, none⟩ = some (.bool false) := HXb.out.cell 0
              have b_1 : w13.cell? ⟨w10.heap.size + 1, 1, none⟩ = some (.string m) := HXb.out.cell 1
              have b_2 : w13.cell? ⟨w10.heap.size + 1, 2, none⟩ = some (.string phi) := HXb.out.cell 2
              have b_3 : w13.cell? ⟨w10.heap.size + 1, 3, none⟩ = some (.int .i64 pr) := HXb.out.cell 3
              have b_4 : w13.cell? ⟨w10.heap.size + 1, 4, none⟩ = some (.slice bp bn bc) := HXb.out.cell 4
              go_wp2_with fail
              clear a_0 a_1 a_2 a_3 a_4 b_0 b_1 b_2 b_3 b_4
              refine (merge_any ⟨false, plo, m, id, pl.take (i + 1)⟩ ⟨false, m, phi, pr, pl.drop (i + 1)⟩ ap bp an bn ac bc _ HNa.out HNb.out HEa.out HEb.out HLa.out HLb.out (by omega) (by omega)).mono ?_
              rw [HMG.out]
              rintro x w14 ⟨v, rfl, hgm, hb⟩
              have HXp : Hid (Bk w14 (w.heap.size) 24 #[.bool false, .string plo, .string phi, .int .i64 pr, .slice pp pn pc]) := HXp.out.below hb HXp.out.lt
              have HXe : Hid (Bk w14 (w.heap.size + 1) 28 #[.string ek, .int .i64 0, .int .i64 0, .int .i64 (max ec 1)]) := HXe.out.below hb HXe.out.lt
              have HXq : Hid (Bk w14 (w4.heap.size) 24 #[.bool false, .string plo, .string phi, .int .i64 pr, .slice qp qn qc]) := HXq.out.below hb HXq.out.lt
              have HXrm : Hid (Bk w14 (w7.heap.size) 24 #[.bool false, .string plo, .string phi, .int .i64 pr, .slice rp rn rc]) := HXrm.out.below hb HXrm.out.lt
              have HXa : Hid (Bk w14 (w10.heap.size) 24 #[.bool false, .string plo, .string m, .int .i64 id, .slice ap an ac]) := HXa.out.below hb HXa.out.lt
              have HXb : Hid (Bk w14 (w10.heap.size + 1) 24 #[.bool false, .string m, .string phi, .int .i64 pr, .slice bp bn bc]) := HXb.out.below hb HXb.out.lt
              have HEp : Hid (Ens w14 pp (pl)) := HEp.out.below hb (Nat.le_refl _)
              have HEq : Hid (Ens w14 qp (ql)) := HEq.out.below hb (Nat.le_refl _)
              have HEr : Hid (Ens w14 rp (dl)) := HEr.out.below hb (Nat.le_refl _)
              have HEa : Hid (Ens w14 ap (pl.take (i + 1))) := HEa.out.below hb (Nat.le_refl _)
              have HEb : Hid (Ens w14 bp (pl.drop (i + 1))) := HEb.out.below hb (Nat.le_refl _)
              have HBW : Hid (Below w.heap.size w w14) := HBW.out.trans (hb.mono HBW.out.size)
              obtain ⟨mf, mlo, mhi, mr, mp, mn, mc, ml, hmq, rfl, hmn, hme, -⟩ := hgm.parts
              simp only [Pp.mk.injEq] at hmq
              obtain ⟨rfl, rfl, rfl, rfl, rfl⟩ := hmq
              obtain rfl : pn = mn := by rw [← HP.out.lenq, ← hmn]
              have HEm : Hid (Ens w14 mp (pl)) := hme
              clear hb hgm hme hmn
              obtain ⟨w15, hw15⟩ : ∃ w15, w14.alloc (.cells #[.bool false, .string plo, .string phi, .int .i64 pr, .slice mp pn mc] 24) = w15 := ⟨_, rfl⟩
              have hb : Below w14.heap.size w14 w15 := by rw [← hw15]; exact (Below.refl _ _).alloc (Nat.le_refl _) _
              have HXm : Hid (Bk w15 w14.heap.size 24 #[.bool false, .string plo, .string phi, .int .i64 pr, .slice mp pn mc]) := by rw [← hw15]; exact Bk.new _ _ _
              have HXp : Hid (Bk w15 (w.heap.size) 24 #[.bool false, .string plo, .string phi, .int .i64 pr, .slice pp pn pc]) := HXp.out.below hb HXp.out.lt
              have HXe : Hid (Bk w15 (w.heap.size + 1) 28 #[.string ek, .int .i64 0, .int .i64 0, .int .i64 (max ec 1)]) := HXe.out.below hb HXe.out.lt
              have HXq : Hid (Bk w15 (w4.heap.size) 24 #[.bool false, .string plo, .string phi, .int .i64 pr, .slice qp qn qc]) := HXq.out.below hb HXq.out.lt
              have HXrm : Hid (Bk w15 (w7.heap.size) 24 #[.bool false, .string plo, .string phi, .int .i64 pr, .slice rp rn rc]) := HXrm.out.below hb HXrm.out.lt
              have HXa : Hid (Bk w15 (w10.heap.size) 24 #[.bool false, .string plo, .string m, .int .i64 id, .slice ap an ac]) := HXa.out.below hb HXa.out.lt
              have HXb : Hid (Bk w15 (w10.heap.size + 1) 24 #[.bool false, .string m, .string phi, .int .i64 pr, .slice bp bn bc]) := HXb.out.below hb HXb.out.lt
              have HEp : Hid (Ens w15 pp (pl)) := HEp.out.below hb (Nat.le_refl _)
              have HEq : Hid (Ens w15 qp (ql)) := HEq.out.below hb (Nat.le_refl _)
              have HEr : Hid (Ens w15 rp (dl)) := HEr.out.below hb (Nat.le_refl _)
              have HEa : Hid (Ens w15 ap (pl.take (i + 1))) := HEa.out.below hb (Nat.le_refl _)
              have HEb : Hid (Ens w15 bp (pl.drop (i + 1))) := HEb.out.below hb (Nat.le_refl _)
              have HEm : Hid (Ens w15 mp (pl)) := HEm.out.below hb (Nat.le_refl _)
              have HBW : Hid (Below w.heap.size w w15) := HBW.out.trans (hb.mono HBW.out.size)
              clear hb
              have m_0 : w15.cell? ⟨w14.heap.size, 0, none⟩ = some (.bool false) := HXm.out.cell 0
              have m_1 : w15.cell? ⟨w14.heap.size, 1, none⟩ = some (.string plo) := HXm.out.cell 1
              have m_2 : w15.cell? ⟨w14.heap.size, 2, none⟩ = some (.string phi) := HXm.out.cell 2
              have m_3 : w15.cell? ⟨w14.heap.size, 3, none⟩ = some (.int .i64 pr) := HXm.out.cell 3
              have m_4 : w15.cell? ⟨w14.heap.size, 4, none⟩ = some (.slice mp pn mc) := HXm.out.cell 4
              have p_0 : w15.cell? ⟨w.heap.size, 0, none⟩ = some (.bool false) := HXp.out.cell 0
              have p_1 : w15.cell? ⟨w.heap.size, 1, none⟩ = some (.string plo) := HXp.out.cell 1
              have p_2 : w15.cell? ⟨w.heap.size, 2, none⟩ = some (.string phi) := HXp.out.cell 2
              have p_3 : w15.cell? ⟨w.heap.size, 3, none⟩ = some (.int .i64 pr) := HXp.out.cell 3
              have p_4 : w15.cell? ⟨w.heap.size, 4, none⟩ = some (.slice pp pn pc) := HXp.out.cell 4
              go_wp2_with fail
              clear hw15 m_0 m_1 m_2 m_3 m_4 p_0 p_1 p_2 p_3 p_4
              refine (same_any ⟨false, plo, phi, pr, pl⟩ ⟨false, plo, phi, pr, pl⟩ mp pp pn pn mc pc _ HP.out.lenq HP.out.lenq HEm.out HEp.out (by omega)).mono ?_
              rw [Pg.same_self]
              rintro x w16 ⟨rfl, hb⟩
              have HXp : Hid (Bk w16 (w.heap.size) 24 #[.bool false, .string plo, .string phi, .int .i64 pr, .slice pp pn pc]) := HXp.out.below hb HXp.out.lt
              have HXe : Hid (Bk w16 (w.heap.size + 1) 28 #[.string ek, .int .i64 0, .int .i64 0, .int .i64 (max ec 1)]) := HXe.out.below hb HXe.out.lt
              have HXq : Hid (Bk w16 (w4.heap.size) 24 #[.bool false, .string plo, .string phi, .int .i64 pr, .slice qp qn qc]) := HXq.out.below hb HXq.out.lt
              have HXrm : Hid (Bk w16 (w7.heap.size) 24 #[.bool false, .string plo, .string phi, .int .i64 pr, .slice rp rn rc]) := HXrm.out.below hb HXrm.out.lt
              have HXa : Hid (Bk w16 (w10.heap.size) 24 #[.bool false, .string plo, .string m, .int .i64 id, .slice ap an ac]) := HXa.out.below hb HXa.out.lt
              have HXb : Hid (Bk w16 (w10.heap.size + 1) 24 #[.bool false, .string m, .string phi, .int .i64 pr, .slice bp bn bc]) := HXb.out.below hb HXb.out.lt
              have HXm : Hid (Bk w16 (w14.heap.size) 24 #[.bool false, .string plo, .string phi, .int .i64 pr, .slice mp pn mc]) := HXm.out.below hb HXm.out.lt
              have HEp : Hid (Ens w16 pp (pl)) := HEp.out.below hb (Nat.le_refl _)
              have HEq : Hid (Ens w16 qp (ql)) := HEq.out.below hb (Nat.le_refl _)
              have HEr : Hid (Ens w16 rp (dl)) := HEr.out.below hb (Nat.le_refl _)
              have HEa : Hid (Ens w16 ap (pl.take (i + 1))) := HEa.out.below hb (Nat.le_refl _)
              have HEb : Hid (Ens w16 bp (pl.drop (i + 1))) := HEb.out.below hb (Nat.le_refl _)
              have HEm : Hid (Ens w16 mp (pl)) := HEm.out.below hb (Nat.le_refl _)
              have HBW : Hid (Below w.heap.size w w16) := HBW.out.trans (hb.mono HBW.out.size)
              clear hb
              go_wp2
              go_ret
              exact ⟨rfl, HBW.out⟩
            · have hno := Pg.split_no (g := ⟨false, plo, phi, pr, pl⟩) (id := id) HRS.out (by rw [HSP.out]; exact hk)
              have hkn : (k != 0) = true := by simp [hk]
              obtain ⟨w11, hw11⟩ : ∃ w11, (w10.alloc (.cells #[.bool af, .string alo, .string ahi, .int .i64 ar, .slice ap an ac] 24)).alloc (.cells #[.bool bf, .string blo, .string bhi, .int .i64 br, .slice bp bn bc] 24) = w11 := ⟨_, rfl⟩
              have hb : Below w10.heap.size w10 w11 := by rw [← hw11]; exact ((Below.refl _ _).alloc (Nat.le_refl _) _).alloc (by simp) _
              have HXa : Hid (Bk w11 (w10.heap.size) 24 #[.bool af, .string alo, .string ahi, .int .i64 ar, .slice ap an ac]) := by rw [← hw11]; exact (Bk.new _ _ _).alloc _
              have HXb : Hid (Bk w11 (w10.heap.size + 1) 24 #[.bool bf, .string blo, .string bhi, .int .i64 br, .slice bp bn bc]) := by rw [← hw11]; exact Bk.new1 _ _ _ _
              have HXp : Hid (Bk w11 (w.heap.size) 24 #[.bool false, .string plo, .string phi, .int .i64 pr, .slice pp pn pc]) := HXp.out.below hb HXp.out.lt
              have HXe : Hid (Bk w11 (w.heap.size + 1) 28 #[.string ek, .int .i64 0, .int .i64 0, .int .i64 (max ec 1)]) := HXe.out.below hb HXe.out.lt
              have HXq : Hid (Bk w11 (w4.heap.size) 24 #[.bool false, .string plo, .string phi, .int .i64 pr, .slice qp qn qc]) := HXq.out.below hb HXq.out.lt
              have HXrm : Hid (Bk w11 (w7.heap.size) 24 #[.bool false, .string plo, .string phi, .int .i64 pr, .slice rp rn rc]) := HXrm.out.below hb HXrm.out.lt
              have HEp : Hid (Ens w11 pp (pl)) := HEp.out.below hb (Nat.le_refl _)
              have HEq : Hid (Ens w11 qp (ql)) := HEq.out.below hb (Nat.le_refl _)
              have HEr : Hid (Ens w11 rp (dl)) := HEr.out.below hb (Nat.le_refl _)
              have HEa : Hid (Ens w11 ap (al)) := HEa.out.below hb (Nat.le_refl _)
              have HEb : Hid (Ens w11 bp (bl)) := HEb.out.below hb (Nat.le_refl _)
              have HBW : Hid (Below w.heap.size w w11) := HBW.out.trans (hb.mono HBW.out.size)
              clear hb
              have p_0 : w11.cell? ⟨w.heap.size, 0, none⟩ = some (.bool false) := HXp.out.cell 0
              have p_1 : w11.cell? ⟨w.heap.size, 1, none⟩ = some (.string plo) := HXp.out.cell 1
              have p_2 : w11.cell? ⟨w.heap.size, 2, none⟩ = some (.string phi) := HXp.out.cell 2
              have p_3 : w11.cell? ⟨w.heap.size, 3, none⟩ = some (.int .i64 pr) := HXp.out.cell 3
              have p_4 : w11.cell? ⟨w.heap.size, 4, none⟩ = some (.slice pp pn pc) := HXp.out.cell 4
              rcases hno with hno | hno
              · have hid2 : decide (id < 1) = true := decide_eq_true hno
                go_wp2
                go_ret
                exact ⟨rfl, HBW.out⟩
              · have hl2 : (pn : Int) < 2 := by have := HP.out.lenq; simp only at hno; omega
                by_cases hid2 : id < 1
                · have hid3 : decide (id < 1) = true := decide_eq_true hid2
                  go_wp2
                  go_ret
                  exact ⟨rfl, HBW.out⟩
                · have hid3 : decide (id < 1) = false := decide_eq_false hid2
                  go_wp2
                  go_ret
                  exact ⟨rfl, HBW.out⟩
          | false =>
            have hkl : ek = plo := by
              apply Classical.byContradiction
              intro hne
              have hlt : pl.findIdx (Pg.is ek) < pl.length := List.findIdx_lt_length_of_exists (by obtain ⟨x, h1, h2⟩ := List.any_eq_true.1 hany; exact ⟨x, h1, h2⟩)
              have hk0 : 0 < pl.findIdx (Pg.is ek) := by
                apply Nat.pos_of_ne_zero
                intro h0
                have hk := Pg.is_iff.1 (List.findIdx_getElem (w := hlt))
                have hbg := (Pg.may_parts HMAY.out).2.2.1
                obtain ⟨z, hz1, hz2⟩ : ∃ z, pl[pl.findIdx (Pg.is ek)]? = some z ∧ z.key = ek := ⟨_, List.getElem?_eq_getElem hlt, hk⟩
                rw [h0] at hz1
                have hz3 : z.key = plo := by
                  clear hk hlt h0
                  match pl, hz1, hbg with
                  | a :: t, hz1, hbg =>
                    rw [Pg.begins_cons, Bool.false_or, beq_iff_eq] at hbg
                    simp only [List.getElem?_cons_zero, Option.some.injEq] at hz1
                    rw [← hz1]
                    exact Ky.toList_inj hbg
                exact hne (hz2.symm.trans hz3)
              have := Pg.may_del HMAY.out (i := pl.findIdx (Pg.is ek)) (.inr hk0)
              rw [HDL.out, hmr] at this
              cases this
            have hkb : (ek.toList == plo.toList) = true := by rw [hkl]; simp
            clear hkl
            go_wp2_with fail
            clear hw8 rm_0 rm_1 rm_2 rm_3 rm_4 p_0 p_1 p_2 p_3 p_4 e_0 e_1 e_2 e_3
            refine (check_any false plo phi pr rp rn rc dl _ HNr.out HEr.out (by omega)).mono ?_
            rw [hmr]
            simp only [Bool.false_eq_true, if_false]
            rintro x w9 ⟨rfl, hb⟩
            have HXp : Hid (Bk w9 (w.heap.size) 24 #[.bool false, .string plo, .string phi, .int .i64 pr, .slice pp pn pc]) := HXp.out.below hb HXp.out.lt
            have HXe : Hid (Bk w9 (w.heap.size + 1) 28 #[.string ek, .int .i64 0, .int .i64 0, .int .i64 (max ec 1)]) := HXe.out.below hb HXe.out.lt
            have HXq : Hid (Bk w9 (w4.heap.size) 24 #[.bool false, .string plo, .string phi, .int .i64 pr, .slice qp qn qc]) := HXq.out.below hb HXq.out.lt
            have HXrm : Hid (Bk w9 (w7.heap.size) 24 #[.bool false, .string plo, .string phi, .int .i64 pr, .slice rp rn rc]) := HXrm.out.below hb HXrm.out.lt
            have HEp : Hid (Ens w9 pp (pl)) := HEp.out.below hb (Nat.le_refl _)
            have HEq : Hid (Ens w9 qp (ql)) := HEq.out.below hb (Nat.le_refl _)
            have HEr : Hid (Ens w9 rp (dl)) := HEr.out.below hb (Nat.le_refl _)
            have HBW : Hid (Below w.heap.size w w9) := HBW.out.trans (hb.mono HBW.out.size)
            clear hb
            have e_0 : w9.cell? ⟨w.heap.size + 1, 0, none⟩ = some (.string ek) := HXe.out.cell 0
            have e_1 : w9.cell? ⟨w.heap.size + 1, 1, none⟩ = some (.int .i64 0) := HXe.out.cell 1
            have e_2 : w9.cell? ⟨w.heap.size + 1, 2, none⟩ = some (.int .i64 0) := HXe.out.cell 2
            have e_3 : w9.cell? ⟨w.heap.size + 1, 3, none⟩ = some (.int .i64 (max ec 1)) := HXe.out.cell 3
            have p_0 : w9.cell? ⟨w.heap.size, 0, none⟩ = some (.bool false) := HXp.out.cell 0
            have p_1 : w9.cell? ⟨w.heap.size, 1, none⟩ = some (.string plo) := HXp.out.cell 1
            have p_2 : w9.cell? ⟨w.heap.size, 2, none⟩ = some (.string phi) := HXp.out.cell 2
            have p_3 : w9.cell? ⟨w.heap.size, 3, none⟩ = some (.int .i64 pr) := HXp.out.cell 3
            have p_4 : w9.cell? ⟨w.heap.size, 4, none⟩ = some (.slice pp pn pc) := HXp.out.cell 4
            go_wp2_with fail
            clear e_0 e_1 e_2 e_3 p_0 p_1 p_2 p_3 p_4
            refine (split_any false plo phi pr pp pn pc pl id _ HP.out.lenq HEp.out (by omega) HP.out.keys).mono ?_
            obtain ⟨⟨ga, gb, k⟩, hsp⟩ : ∃ o, Pg.split ⟨false, plo, phi, pr, pl⟩ id = o := ⟨_, rfl⟩
            rw [hsp]
            rintro x w10 ⟨v1, v2, rfl, hga, hgb, hb⟩
            have HXp : Hid (Bk w10 (w.heap.size) 24 #[.bool false, .string plo, .string phi, .int .i64 pr, .slice pp pn pc]) := HXp.out.below hb HXp.out.lt
            have HXe : Hid (Bk w10 (w.heap.size + 1) 28 #[.string ek, .int .i64 0, .int .i64 0, .int .i64 (max ec 1)]) := HXe.out.below hb HXe.out.lt
            have HXq : Hid (Bk w10 (w4.heap.size) 24 #[.bool false, .string plo, .string phi, .int .i64 pr, .slice qp qn qc]) := HXq.out.below hb HXq.out.lt
            have HXrm : Hid (Bk w10 (w7.heap.size) 24 #[.bool false, .string plo, .string phi, .int .i64 pr, .slice rp rn rc]) := HXrm.out.below hb HXrm.out.lt
            have HEp : Hid (Ens w10 pp (pl)) := HEp.out.below hb (Nat.le_refl _)
            have HEq : Hid (Ens w10 qp (ql)) := HEq.out.below hb (Nat.le_refl _)
            have HEr : Hid (Ens w10 rp (dl)) := HEr.out.below hb (Nat.le_refl _)
            have HBW : Hid (Below w.heap.size w w10) := HBW.out.trans (hb.mono HBW.out.size)
            obtain ⟨af, alo, ahi, ar, ap, an, ac, al, rfl, rfl, han, hae, hnla⟩ := hga.parts
            obtain ⟨bf, blo, bhi, br, bp, bn, bc, bl, rfl, rfl, hbn, hbe, hnlb⟩ := hgb.parts
            have HSP : Hid (Pg.split ⟨false, plo, phi, pr, pl⟩ id = (⟨af, alo, ahi, ar, al⟩, ⟨bf, blo, bhi, br, bl⟩, k)) := hsp
            have HEa : Hid (Ens w10 ap (al)) := hae
            have HEb : Hid (Ens w10 bp (bl)) := hbe
            have HNa : Hid (al.length = an) := han
            have HNb : Hid (bl.length = bn) := hbn
            have HLa : Hid (ap = none → an = 0 ∧ ac = 0) := hnla
            have HLb : Hid (bp = none → bn = 0 ∧ bc = 0) := hnlb
            clear hsp hga hgb hb hae hbe han hbn hnla hnlb
            by_cases hk : k = 0
            · subst hk
              obtain ⟨i, m, x, y, hil, hid1, hgx, hgy, hpt, hse⟩ := Pg.split_ok (g := ⟨false, plo, phi, pr, pl⟩) (id := id) (by rw [HSP.out])
              rw [HSP.out] at hse
              simp only [Prod.mk.injEq, Pp.mk.injEq, and_true] at hse
              obtain ⟨⟨u1, u2, u3, u4, u5⟩, ⟨u6, u7, u8, u9, u0⟩⟩ := hse
              obtain rfl := u1.symm
              obtain rfl := u2.symm
              obtain rfl := u3.symm
              obtain rfl := u4.symm
              obtain rfl := u5.symm
              obtain rfl := u6.symm
              obtain rfl := u7.symm
              obtain rfl := u8.symm
              obtain rfl := u9.symm
              obtain rfl := u0.symm
              simp only at hil hgx hgy hpt
              have hms := Pg.may_split HMAY.out hid1 hgx hgy hpt
              have HMA : Hid (Pg.may false ⟨plo, m⟩ id (pl.take (i + 1)) = true) := hms.1
              have HMB : Hid (Pg.may false ⟨m, phi⟩ pr (pl.drop (i + 1)) = true) := hms.2
              have HMG : Hid (Pg.merge ⟨false, plo, m, id, pl.take (i + 1)⟩ ⟨false, m, phi, pr, pl.drop (i + 1)⟩ = (⟨false, plo, phi, pr, pl⟩, 0)) := Pg.merge_back (Pg.part_facts hpt (HRS.out i x y hgx hgy)).2.2
              have hbA : an ≤ 3518437208780 := by have h1 := HNa.out; have h2 := HP.out.lenq; rw [List.length_take] at h1; omega
              have hbB : bn ≤ 3518437208780 := by have h1 := HNb.out; have h2 := HP.out.lenq; rw [List.length_drop] at h1; omega
              have hbS : an + bn = pn := by have h1 := HNa.out; have h2 := HP.out.lenq; have h3 := HNb.out; rw [List.length_take] at h1; rw [List.length_drop] at h3; omega
              clear hil hid1 hgx hgy hpt hms HSP
              obtain ⟨w11, hw11⟩ : ∃ w11, (w10.alloc (.cells #[.bool false, .string plo, .string m, .int .i64 id, .slice ap an ac] 24)).alloc (.cells #[.bool false, .string m, .string phi, .int .i64 pr, .slice bp bn bc] 24) = w11 := ⟨_, rfl⟩
              have hb : Below w10.heap.size w10 w11 := by rw [← hw11]; exact ((Below.refl _ _).alloc (Nat.le_refl _) _).alloc (by simp) _
              have HXa : Hid (Bk w11 (w10.heap.size) 24 #[.bool false, .string plo, .string m, .int .i64 id, .slice ap an ac]) := by rw [← hw11]; exact (Bk.new _ _ _).alloc _
              have HXb : Hid (Bk w11 (w10.heap.size + 1) 24 #[.bool false, .string m, .string phi, .int .i64 pr, .slice bp bn bc]) := by rw [← hw11]; exact Bk.new1 _ _ _ _
              have HXp : Hid (Bk w11 (w.heap.size) 24 #[.bool false, .string plo, .string phi, .int .i64 pr, .slice pp pn pc]) := HXp.out.below hb HXp.out.lt
              have HXe : Hid (Bk w11 (w.heap.size + 1) 28 #[.string ek, .int .i64 0, .int .i64 0, .int .i64 (max ec 1)]) := HXe.out.below hb HXe.out.lt
              have HXq : Hid (Bk w11 (w4.heap.size) 24 #[.bool false, .string plo, .string phi, .int .i64 pr, .slice qp qn qc]) := HXq.out.below hb HXq.out.lt
              have HXrm : Hid (Bk w11 (w7.heap.size) 24 #[.bool false, .string plo, .string phi, .int .i64 pr, .slice rp rn rc]) := HXrm.out.below hb HXrm.out.lt
              have HEp : Hid (Ens w11 pp (pl)) := HEp.out.below hb (Nat.le_refl _)
              have HEq : Hid (Ens w11 qp (ql)) := HEq.out.below hb (Nat.le_refl _)
              have HEr : Hid (Ens w11 rp (dl)) := HEr.out.below hb (Nat.le_refl _)
              have HEa : Hid (Ens w11 ap (pl.take (i + 1))) := HEa.out.below hb (Nat.le_refl _)
              have HEb : Hid (Ens w11 bp (pl.drop (i + 1))) := HEb.out.below hb (Nat.le_refl _)
              have HBW : Hid (Below w.heap.size w w11) := HBW.out.trans (hb.mono HBW.out.size)
              clear hb
              have a_0 : w11.cell? ⟨w10.heap.size, 0, none⟩ = some (.bool false) := HXa.out.cell 0
              have a_1 : w11.cell? ⟨w10.heap.size, 1, none⟩ = some (.string plo) := HXa.out.cell 1
              have a_2 : w11.cell? ⟨w10.heap.size, 2, none⟩ = some (.string m) := HXa.out.cell 2
              have a_3 : w11.cell? ⟨w10.heap.size, 3, none⟩ = some (.int .i64 id) := HXa.out.cell 3
              have a_4 : w11.cell? ⟨w10.heap.size, 4, none⟩ = some (.slice ap an ac) := HXa.out.cell 4
              have b_0 : w11.cell? ⟨w10.heap.size + 1, 0, none⟩ = some (.bool false) := HXb.out.cell 0
              have b_1 : w11.cell? ⟨w10.heap.size + 1, 1, none⟩ = some (.string m) := HXb.out.cell 1
              have b_2 : w11.cell? ⟨w10.heap.size + 1, 2, none⟩ = some (.string phi) := HXb.out.cell 2
              have b_3 : w11.cell? ⟨w10.heap.size + 1, 3, none⟩ = some (.int .i64 pr) := HXb.out.cell 3
              have b_4 : w11.cell? ⟨w10.heap.size + 1, 4, none⟩ = some (.slice bp bn bc) := HXb.out.cell 4
              go_wp2_with fail
              clear hw11 a_0 a_1 a_2 a_3 a_4 b_0 b_1 b_2 b_3 b_4
              refine (check_any false plo m id ap an ac (pl.take (i + 1)) _ HNa.out HEa.out (by omega)).mono ?_
              rw [HMA.out]
              simp only [if_true]
              rintro x w12 ⟨rfl, hb⟩
              have HXp : Hid (Bk w12 (w.heap.size) 24 #[.bool false, .string plo, .string phi, .int .i64 pr, .slice pp pn pc]) := HXp.out.below hb HXp.out.lt
              have HXe : Hid (Bk w12 (w.heap.size + 1) 28 #[.string ek, .int .i64 0, .int .i64 0, .int .i64 (max ec 1)]) := HXe.out.below hb HXe.out.lt
              have HXq : Hid (Bk w12 (w4.heap.size) 24 #[.bool false, .string plo, .string phi, .int .i64 pr, .slice qp qn qc]) := HXq.out.below hb HXq.out.lt
              have HXrm : Hid (Bk w12 (w7.heap.size) 24 #[.bool false, .string plo, .string phi, .int .i64 pr, .slice rp rn rc]) := HXrm.out.below hb HXrm.out.lt
              have HXa : Hid (Bk w12 (w10.heap.size) 24 #[.bool false, .string plo, .string m, .int .i64 id, .slice ap an ac]) := HXa.out.below hb HXa.out.lt
              have HXb : Hid (Bk w12 (w10.heap.size + 1) 24 #[.bool false, .string m, .string phi, .int .i64 pr, .slice bp bn bc]) := HXb.out.below hb HXb.out.lt
              have HEp : Hid (Ens w12 pp (pl)) := HEp.out.below hb (Nat.le_refl _)
              have HEq : Hid (Ens w12 qp (ql)) := HEq.out.below hb (Nat.le_refl _)
              have HEr : Hid (Ens w12 rp (dl)) := HEr.out.below hb (Nat.le_refl _)
              have HEa : Hid (Ens w12 ap (pl.take (i + 1))) := HEa.out.below hb (Nat.le_refl _)
              have HEb : Hid (Ens w12 bp (pl.drop (i + 1))) := HEb.out.below hb (Nat.le_refl _)
              have HBW : Hid (Below w.heap.size w w12) := HBW.out.trans (hb.mono HBW.out.size)
              clear hb
              have a_0 : w12.cell? ⟨w10.heap.size, 0, none⟩ = some (.bool false) := HXa.out.cell 0
              have a_1 : w12.cell? ⟨w10.heap.size, 1, none⟩ = some (.string plo) := HXa.out.cell 1
              have a_2 : w12.cell? ⟨w10.heap.size, 2, none⟩ = some (.string m) := HXa.out.cell 2
              have a_3 : w12.cell? ⟨w10.heap.size, 3, none⟩ = some (.int .i64 id) := HXa.out.cell 3
              have a_4 : w12.cell? ⟨w10.heap.size, 4, none⟩ = some (.slice ap an ac) := HXa.out.cell 4
              have b_0 : w12.cell? ⟨w10.heap.size + 1, 0, none⟩ = some (.bool false) := HXb.out.cell 0
              have b_1 : w12.cell? ⟨w10.heap.size + 1, 1, none⟩ = some (.string m) := HXb.out.cell 1
              have b_2 : w12.cell? ⟨w10.heap.size + 1, 2, none⟩ = some (.string phi) := HXb.out.cell 2
              have b_3 : w12.cell? ⟨w10.heap.size + 1, 3, none⟩ = some (.int .i64 pr) := HXb.out.cell 3
              have b_4 : w12.cell? ⟨w10.heap.size + 1, 4, none⟩ = some (.slice bp bn bc) := HXb.out.cell 4
              go_wp2_with fail
              clear a_0 a_1 a_2 a_3 a_4 b_0 b_1 b_2 b_3 b_4
              refine (check_any false m phi pr bp bn bc (pl.drop (i + 1)) _ HNb.out HEb.out (by omega)).mono ?_
              rw [HMB.out]
              simp only [if_true]
              rintro x w13 ⟨rfl, hb⟩
              have HXp : Hid (Bk w13 (w.heap.size) 24 #[.bool false, .string plo, .string phi, .int .i64 pr, .slice pp pn pc]) := HXp.out.below hb HXp.out.lt
              have HXe : Hid (Bk w13 (w.heap.size + 1) 28 #[.string ek, .int .i64 0, .int .i64 0, .int .i64 (max ec 1)]) := HXe.out.below hb HXe.out.lt
              have HXq : Hid (Bk w13 (w4.heap.size) 24 #[.bool false, .string plo, .string phi, .int .i64 pr, .slice qp qn qc]) := HXq.out.below hb HXq.out.lt
              have HXrm : Hid (Bk w13 (w7.heap.size) 24 #[.bool false, .string plo, .string phi, .int .i64 pr, .slice rp rn rc]) := HXrm.out.below hb HXrm.out.lt
              have HXa : Hid (Bk w13 (w10.heap.size) 24 #[.bool false, .string plo, .string m, .int .i64 id, .slice ap an ac]) := HXa.out.below hb HXa.out.lt
              have HXb : Hid (Bk w13 (w10.heap.size + 1) 24 #[.bool false, .string m, .string phi, .int .i64 pr, .slice bp bn bc]) := HXb.out.below hb HXb.out.lt
              have HEp : Hid (Ens w13 pp (pl)) := HEp.out.below hb (Nat.le_refl _)
              have HEq : Hid (Ens w13 qp (ql)) := HEq.out.below hb (Nat.le_refl _)
              have HEr : Hid (Ens w13 rp (dl)) := HEr.out.below hb (Nat.le_refl _)
              have HEa : Hid (Ens w13 ap (pl.take (i + 1))) := HEa.out.below hb (Nat.le_refl _)
              have HEb : Hid (Ens w13 bp (pl.drop (i + 1))) := HEb.out.below hb (Nat.le_refl _)
              have HBW : Hid (Below w.heap.size w w13) := HBW.out.trans (hb.mono HBW.out.size)
              clear hb
              have hidn : (id != id) = false := by simp
              have a_0 : w13.cell? ⟨w10.heap.size, 0, none⟩ = some (.bool false) := HXa.out.cell 0
              have a_1 : w13.cell? ⟨w10.heap.size, 1, none⟩ = some (.string plo) := HXa.out.cell 1
              have a_2 : w13.cell? ⟨w10.heap.size, 2, none⟩ = some (.string m) := HXa.out.cell 2
              have a_3 : w13.cell? ⟨w10.heap.size, 3, none⟩ = some (.int .i64 id) := HXa.out.cell 3
              have a_4 : w13.cell? ⟨w10.heap.size, 4, none⟩ = some (.slice ap an ac) := HXa.out.cell 4
              have b_0 : w13.cell? ⟨w10.heap.size + 1, 0, none⟩ = some (.bool false) := HXb.out.cell 0
              have b_1 : w13.cell? ⟨w10.heap.size + 1, 1, none⟩ = some (.string m) := HXb.out.cell 1
              have b_2 : w13.cell? ⟨w10.heap.size + 1, 2, none⟩ = some (.string phi) := HXb.out.cell 2
              have b_3 : w13.cell? ⟨w10.heap.size + 1, 3, none⟩ = some (.int .i64 pr) := HXb.out.cell 3
              have b_4 : w13.cell? ⟨w10.heap.size + 1, 4, none⟩ = some (.slice bp bn bc) := HXb.out.cell 4
              go_wp2_with fail
              clear a_0 a_1 a_2 a_3 a_4 b_0 b_1 b_2 b_3 b_4
              refine (merge_any ⟨false, plo, m, id, pl.take (i + 1)⟩ ⟨false, m, phi, pr, pl.drop (i + 1)⟩ ap bp an bn ac bc _ HNa.out HNb.out HEa.out HEb.out HLa.out HLb.out (by omega) (by omega)).mono ?_
              rw [HMG.out]
              rintro x w14 ⟨v, rfl, hgm, hb⟩
              have HXp : Hid (Bk w14 (w.heap.size) 24 #[.bool false, .string plo, .string phi, .int .i64 pr, .slice pp pn pc]) := HXp.out.below hb HXp.out.lt
              have HXe : Hid (Bk w14 (w.heap.size + 1) 28 #[.string ek, .int .i64 0, .int .i64 0, .int .i64 (max ec 1)]) := HXe.out.below hb HXe.out.lt
              have HXq : Hid (Bk w14 (w4.heap.size) 24 #[.bool false, .string plo, .string phi, .int .i64 pr, .slice qp qn qc]) := HXq.out.below hb HXq.out.lt
              have HXrm : Hid (Bk w14 (w7.heap.size) 24 #[.bool false, .string plo, .string phi, .int .i64 pr, .slice rp rn rc]) := HXrm.out.below hb HXrm.out.lt
              have HXa : Hid (Bk w14 (w10.heap.size) 24 #[.bool false, .string plo, .string m, .int .i64 id, .slice ap an ac]) := HXa.out.below hb HXa.out.lt
              have HXb : Hid (Bk w14 (w10.heap.size + 1) 24 #[.bool false, .string m, .string phi, .int .i64 pr, .slice bp bn bc]) := HXb.out.below hb HXb.out.lt
              have HEp : Hid (Ens w14 pp (pl)) := HEp.out.below hb (Nat.le_refl _)
              have HEq : Hid (Ens w14 qp (ql)) := HEq.out.below hb (Nat.le_refl _)
              have HEr : Hid (Ens w14 rp (dl)) := HEr.out.below hb (Nat.le_refl _)
              have HEa : Hid (Ens w14 ap (pl.take (i + 1))) := HEa.out.below hb (Nat.le_refl _)
              have HEb : Hid (Ens w14 bp (pl.drop (i + 1))) := HEb.out.below hb (Nat.le_refl _)
              have HBW : Hid (Below w.heap.size w w14) := HBW.out.trans (hb.mono HBW.out.size)
              obtain ⟨mf, mlo, mhi, mr, mp, mn, mc, ml, hmq, rfl, hmn, hme, -⟩ := hgm.parts
              simp only [Pp.mk.injEq] at hmq
              obtain ⟨rfl, rfl, rfl, rfl, rfl⟩ := hmq
              obtain rfl : pn = mn := by rw [← HP.out.lenq, ← hmn]
              have HEm : Hid (Ens w14 mp (pl)) := hme
              clear hb hgm hme hmn
              obtain ⟨w15, hw15⟩ : ∃ w15, w14.alloc (.cells #[.bool false, .string plo, .string phi, .int .i64 pr, .slice mp pn mc] 24) = w15 := ⟨_, rfl⟩
              have hb : Below w14.heap.size w14 w15 := by rw [← hw15]; exact (Below.refl _ _).alloc (Nat.le_refl _) _
              have HXm : Hid (Bk w15 w14.heap.size 24 #[.bool false, .string plo, .string phi, .int .i64 pr, .slice mp pn mc]) := by rw [← hw15]; exact Bk.new _ _ _
              have HXp : Hid (Bk w15 (w.heap.size) 24 #[.bool false, .string plo, .string phi, .int .i64 pr, .slice pp pn pc]) := HXp.out.below hb HXp.out.lt
              have HXe : Hid (Bk w15 (w.heap.size + 1) 28 #[.string ek, .int .i64 0, .int .i64 0, .int .i64 (max ec 1)]) := HXe.out.below hb HXe.out.lt
              have HXq : Hid (Bk w15 (w4.heap.size) 24 #[.bool false, .string plo, .string phi, .int .i64 pr, .slice qp qn qc]) := HXq.out.below hb HXq.out.lt
              have HXrm : Hid (Bk w15 (w7.heap.size) 24 #[.bool false, .string plo, .string phi, .int .i64 pr, .slice rp rn rc]) := HXrm.out.below hb HXrm.out.lt
              have HXa : Hid (Bk w15 (w10.heap.size) 24 #[.bool false, .string plo, .string m, .int .i64 id, .slice ap an ac]) := HXa.out.below hb HXa.out.lt
              have HXb : Hid (Bk w15 (w10.heap.size + 1) 24 #[.bool false, .string m, .string phi, .int .i64 pr, .slice bp bn bc]) := HXb.out.below hb HXb.out.lt
              have HEp : Hid (Ens w15 pp (pl)) := HEp.out.below hb (Nat.le_refl _)
              have HEq : Hid (Ens w15 qp (ql)) := HEq.out.below hb (Nat.le_refl _)
              have HEr : Hid (Ens w15 rp (dl)) := HEr.out.below hb (Nat.le_refl _)
              have HEa : Hid (Ens w15 ap (pl.take (i + 1))) := HEa.out.below hb (Nat.le_refl _)
              have HEb : Hid (Ens w15 bp (pl.drop (i + 1))) := HEb.out.below hb (Nat.le_refl _)
              have HEm : Hid (Ens w15 mp (pl)) := HEm.out.below hb (Nat.le_refl _)
              have HBW : Hid (Below w.heap.size w w15) := HBW.out.trans (hb.mono HBW.out.size)
              clear hb
              have m_0 : w15.cell? ⟨w14.heap.size, 0, none⟩ = some (.bool false) := HXm.out.cell 0
              have m_1 : w15.cell? ⟨w14.heap.size, 1, none⟩ = some (.string plo) := HXm.out.cell 1
              have m_2 : w15.cell? ⟨w14.heap.size, 2, none⟩ = some (.string phi) := HXm.out.cell 2
              have m_3 : w15.cell? ⟨w14.heap.size, 3, none⟩ = some (.int .i64 pr) := HXm.out.cell 3
              have m_4 : w15.cell? ⟨w14.heap.size, 4, none⟩ = some (.slice mp pn mc) := HXm.out.cell 4
              have p_0 : w15.cell? ⟨w.heap.size, 0, none⟩ = some (.bool false) := HXp.out.cell 0
              have p_1 : w15.cell? ⟨w.heap.size, 1, none⟩ = some (.string plo) := HXp.out.cell 1
              have p_2 : w15.cell? ⟨w.heap.size, 2, none⟩ = some (.string phi) := HXp.out.cell 2
              have p_3 : w15.cell? ⟨w.heap.size, 3, none⟩ = some (.int .i64 pr) := HXp.out.cell 3
              have p_4 : w15.cell? ⟨w.heap.size, 4, none⟩ = some (.slice pp pn pc) := HXp.out.cell 4
              go_wp2_with fail
              clear hw15 m_0 m_1 m_2 m_3 m_4 p_0 p_1 p_2 p_3 p_4
              refine (same_any ⟨false, plo, phi, pr, pl⟩ ⟨false, plo, phi, pr, pl⟩ mp pp pn pn mc pc _ HP.out.lenq HP.out.lenq HEm.out HEp.out (by omega)).mono ?_
              rw [Pg.same_self]
              rintro x w16 ⟨rfl, hb⟩
              have HXp : Hid (Bk w16 (w.heap.size) 24 #[.bool false, .string plo, .string phi, .int .i64 pr, .slice pp pn pc]) := HXp.out.below hb HXp.out.lt
              have HXe : Hid (Bk w16 (w.heap.size + 1) 28 #[.string ek, .int .i64 0, .int .i64 0, .int .i64 (max ec 1)]) := HXe.out.below hb HXe.out.lt
              have HXq : Hid (Bk w16 (w4.heap.size) 24 #[.bool false, .string plo, .string phi, .int .i64 pr, .slice qp qn qc]) := HXq.out.below hb HXq.out.lt
              have HXrm : Hid (Bk w16 (w7.heap.size) 24 #[.bool false, .string plo, .string phi, .int .i64 pr, .slice rp rn rc]) := HXrm.out.below hb HXrm.out.lt
              have HXa : Hid (Bk w16 (w10.heap.size) 24 #[.bool false, .string plo, .string m, .int .i64 id, .slice ap an ac]) := HXa.out.below hb HXa.out.lt
              have HXb : Hid (Bk w16 (w10.heap.size + 1) 24 #[.bool false, .string m, .string phi, .int .i64 pr, .slice bp bn bc]) := HXb.out.below hb HXb.out.lt
              have HXm : Hid (Bk w16 (w14.heap.size) 24 #[.bool false, .string plo, .string phi, .int .i64 pr, .slice mp pn mc]) := HXm.out.below hb HXm.out.lt
              have HEp : Hid (Ens w16 pp (pl)) := HEp.out.below hb (Nat.le_refl _)
              have HEq : Hid (Ens w16 qp (ql)) := HEq.out.below hb (Nat.le_refl _)
              have HEr : Hid (Ens w16 rp (dl)) := HEr.out.below hb (Nat.le_refl _)
              have HEa : Hid (Ens w16 ap (pl.take (i + 1))) := HEa.out.below hb (Nat.le_refl _)
              have HEb : Hid (Ens w16 bp (pl.drop (i + 1))) := HEb.out.below hb (Nat.le_refl _)
              have HEm : Hid (Ens w16 mp (pl)) := HEm.out.below hb (Nat.le_refl _)
              have HBW : Hid (Below w.heap.size w w16) := HBW.out.trans (hb.mono HBW.out.size)
              clear hb
              go_wp2
              go_ret
              exact ⟨rfl, HBW.out⟩
            · have hno := Pg.split_no (g := ⟨false, plo, phi, pr, pl⟩) (id := id) HRS.out (by rw [HSP.out]; exact hk)
              have hkn : (k != 0) = true := by simp [hk]
              obtain ⟨w11, hw11⟩ : ∃ w11, (w10.alloc (.cells #[.bool af, .string alo, .string ahi, .int .i64 ar, .slice ap an ac] 24)).alloc (.cells #[.bool bf, .string blo, .string bhi, .int .i64 br, .slice bp bn bc] 24) = w11 := ⟨_, rfl⟩
              have hb : Below w10.heap.size w10 w11 := by rw [← hw11]; exact ((Below.refl _ _).alloc (Nat.le_refl _) _).alloc (by simp) _
              have HXa : Hid (Bk w11 (w10.heap.size) 24 #[.bool af, .string alo, .string ahi, .int .i64 ar, .slice ap an ac]) := by rw [← hw11]; exact (Bk.new _ _ _).alloc _
              have HXb : Hid (Bk w11 (w10.heap.size + 1) 24 #[.bool bf, .string blo, .string bhi, .int .i64 br, .slice bp bn bc]) := by rw [← hw11]; exact Bk.new1 _ _ _ _
              have HXp : Hid (Bk w11 (w.heap.size) 24 #[.bool false, .string plo, .string phi, .int .i64 pr, .slice pp pn pc]) := HXp.out.below hb HXp.out.lt
              have HXe : Hid (Bk w11 (w.heap.size + 1) 28 #[.string ek, .int .i64 0, .int .i64 0, .int .i64 (max ec 1)]) := HXe.out.below hb HXe.out.lt
              have HXq : Hid (Bk w11 (w4.heap.size) 24 #[.bool false, .string plo, .string phi, .int .i64 pr, .slice qp qn qc]) := HXq.out.below hb HXq.out.lt
              have HXrm : Hid (Bk w11 (w7.heap.size) 24 #[.bool false, .string plo, .string phi, .int .i64 pr, .slice rp rn rc]) := HXrm.out.below hb HXrm.out.lt
              have HEp : Hid (Ens w11 pp (pl)) := HEp.out.below hb (Nat.le_refl _)
              have HEq : Hid (Ens w11 qp (ql)) := HEq.out.below hb (Nat.le_refl _)
              have HEr : Hid (Ens w11 rp (dl)) := HEr.out.below hb (Nat.le_refl _)
              have HEa : Hid (Ens w11 ap (al)) := HEa.out.below hb (Nat.le_refl _)
              have HEb : Hid (Ens w11 bp (bl)) := HEb.out.below hb (Nat.le_refl _)
              have HBW : Hid (Below w.heap.size w w11) := HBW.out.trans (hb.mono HBW.out.size)
              clear hb
              have p_0 : w11.cell? ⟨w.heap.size, 0, none⟩ = some (.bool false) := HXp.out.cell 0
              have p_1 : w11.cell? ⟨w.heap.size, 1, none⟩ = some (.string plo) := HXp.out.cell 1
              have p_2 : w11.cell? ⟨w.heap.size, 2, none⟩ = some (.string phi) := HXp.out.cell 2
              have p_3 : w11.cell? ⟨w.heap.size, 3, none⟩ = some (.int .i64 pr) := HXp.out.cell 3
              have p_4 : w11.cell? ⟨w.heap.size, 4, none⟩ = some (.slice pp pn pc) := HXp.out.cell 4
              rcases hno with hno | hno
              · have hid2 : decide (id < 1) = true := decide_eq_true hno
                go_wp2
                go_ret
                exact ⟨rfl, HBW.out⟩
              · have hl2 : (pn : Int) < 2 := by have := HP.out.lenq; simp only at hno; omega
                by_cases hid2 : id < 1
                · have hid3 : decide (id < 1) = true := decide_eq_true hid2
                  go_wp2
                  go_ret
                  exact ⟨rfl, HBW.out⟩
                · have hid3 : decide (id < 1) = false := decide_eq_false hid2
                  go_wp2
                  go_ret
                  exact ⟨rfl, HBW.out⟩


set_option maxRecDepth 100000 in
set_option maxHeartbeats 2000000 in
theorem lifted_pageSound (os : Os) (started : os.Started) (H : Type) (enc : TypeId × Value → H) :
    ReturnsInHanded {} Try.checked os 6 .any (Rows.pageSoundSpec.pre6 enc Try.prog Try.f6 Rows.pageSoundRow.domain false) (Rows.pageSoundSpec.post enc Try.prog Try.f6 false true false false) := by
  refine returnsInHanded_of_change_sized (C := Try.checked) own started (by kernel_rfl) Try.func6
    (ChangeSpec.witness6 (enc := enc) (C := Try.checked) false ⟨#[], #[.agg #[.bool false, .string .empty, .string .empty, .int .i64 0, .slice none 0 0], .agg #[.string .empty, .int .i64 0, .int .i64 0, .int .i64 0], .int .i64 0], []⟩ 8 (by kernel_rfl) (by kernel_rfl) (by kernel_rfl) (by kernel_rfl)) ?_
  intro W base args ds gs before hval0 hW _ hsz0 _
  have hsz : (DataW.weightsEach Try.prog (Try.f6.params.toList ++ Rows.pageSoundSpec.plain.varTypes Try.prog) (ds ++ gs)).all (· ≤ reachBytes) = true := hsz0
  clear hsz0
  have hval : ∀ (j : Nat) t v, Try.f6.params[j]? = some t → args[j]? = some v → Value.okWide Try.prog W .any base t v := hval0
  have hW' := hW
  obtain ⟨p, q, hA0, hV, rfl, hfz, hnd⟩ := hW
  have hA : DataW.TrodAll enc Try.prog W 0 (fun _ => true) true Try.f6.params.toList args.toList ds p := hA0
  rw [Try.params6] at hA hval hsz
  obtain ⟨v0, vs0, d0, ds0, p0, q0, hargs, rfl, rfl, h0, r0⟩ := trodAll_cons hA
  obtain ⟨v1, vs1, d1, ds1, p1, q1, rfl, rfl, rfl, h1, r1⟩ := trodAll_cons r0
  obtain ⟨v2, vs2, d2, ds2, p2, q2, rfl, rfl, rfl, h2, r2⟩ := trodAll_cons r1
  obtain ⟨rfl, rfl, rfl⟩ := trodAll_nil r2
  obtain rfl : args = #[v0, v1, v2] := by cases args; simp_all
  obtain ⟨rfl, rfl⟩ := trodVars_none hV
  have k0 := h0
  have lt0 : ∀ x ∈ p0, x.block < W.heap.size := by obtain ⟨m, hm⟩ := k0; exact DataW.trod_lt m _ _ _ hm
  obtain ⟨b0, lo0, hi0, r0', a0, len0, cap0, l0, e0, w0⟩ : ∃ leaf lo hi r a len cap l, v0 = .agg #[.bool leaf, .string lo, .string hi, .int .i64 r, .slice a len cap] ∧ InE 3518437208780 W a len cap l := by
    obtain ⟨cs, hcs, _⟩ := okWide_struct Try.underlying24 (hval 0 24 v0 rfl rfl)
    obtain ⟨fuel, hf⟩ := h0
    obtain ⟨b, lo, hi, r, a, len, cap, l, hg, ho⟩ := in_page (M := 3518437208780) hf (page_said (x := (d0, p0)) (Nat.le_refl _) (fun n hn => by
      have := of_decide_eq_true (List.all_eq_true.1 hsz _ (DataW.weights_mem_each (j := 0) (t := 24) rfl rfl n hn))
      simp only [reachBytes] at this
      omega))
    refine ⟨b, lo, hi, r, a, len, cap, l, ?_, ho⟩
    rw [hcs] at hg ⊢
    congr 1
    apply Array.ext'
    simpa [Value.cells] using hg
  subst e0
  have k1 := h1
  have lt1 : ∀ x ∈ p1, x.block < W.heap.size := by obtain ⟨m, hm⟩ := k1; exact DataW.trod_lt m _ _ _ hm
  obtain ⟨g1, e1⟩ : ∃ g : En, v1 = g.val := by
    obtain ⟨cs, hcs, _⟩ := okWide_struct Try.underlying28 (hval 1 28 v1 rfl rfl)
    obtain ⟨fuel, hf⟩ := h1
    obtain ⟨g, hg, _⟩ := in_en hf
    refine ⟨g, ?_⟩
    rw [hcs] at hg ⊢
    congr 1
    apply Array.ext'
    simpa [Value.cells, En.cells] using hg
  subst e1
  obtain ⟨a2, rfl, rfl, rfl, w2⟩ := open_int Try.underlying3 (hval 2 3 v2 rfl rfl) h2
  clear hA0 hval0
  refine (walk_pageSound b0 lo0 hi0 r0' a0 len0 cap0 l0 g1 a2 W w0 w2).mono fun e W' ⟨he, bel⟩ => ?_
  subst he
  exact ⟨_, rfl, _, _, _, [], _, [], hW', trodAll_mk1 (shut_bool Try.underlying4 _), (trodAll_cons_mk (Below.trod laidOut (by kernel_rfl) (of_decide_eq_true (by kernel_rfl)) k0 bel lt0) (trodAll_cons_mk (Below.trod laidOut (by kernel_rfl) (of_decide_eq_true (by kernel_rfl)) k1 bel lt1) (trodAll_cons_mk (shut_int Try.underlying3 w2) trodAll_mk0))), rfl, bel.frame _, fun h => by cases h⟩

/-- The statement. -/
theorem pageSound_holds : Rows.PageSoundSaid :=
  OpenClaim.holds_of_wide 6 Try.f6 rfl rfl rfl rfl rfl rfl rfl ⟨rfl, rfl, rfl, rfl, rfl⟩ rfl rfl rfl rfl rfl (by kernel_rfl) Try.func6 (by kernel_rfl)
    (of_decide_eq_true (by kernel_rfl)) (by unfold Func.isWrapper; first | (rw [if_pos (by decide +kernel)]; kernel_rfl) | (rw [if_neg (by decide +kernel)]; exact ⟨rfl, rfl⟩))
    (fun os started H enc _ => lifted_pageSound os started H enc)
#print axioms pageSound_holds
end Go.Proofs.Ytlcbfpjijceckaa
