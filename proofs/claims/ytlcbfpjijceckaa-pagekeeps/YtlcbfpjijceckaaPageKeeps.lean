/- PageKeeps: what was put is found, what was removed is not, other keys keep what they have. -/
import Derived.Test.YtlcbfpjijceckaaPgKp
import Derived.Test.YtlcbfpjijceckaaPgLive
import Derived.Test.YtlcbfpjijceckaaPgOpen
namespace Go.Proofs.Ytlcbfpjijceckaa
open Go.ChangeShapes Go.WideShapes Go.ChangeAt Go.RowKit Go.Sort
open Go.ChangeMaps (open_string shut_string)
set_option linter.unusedVariables false
set_option maxRecDepth 100000

theorem PgAt.parts {w : World} {base : Nat} {v : Value} {g : Pp} (h : PgAt w base v g) : ∃ f lo hi r p n c l, g = ⟨f, lo, hi, r, l⟩ ∧ v = pgv f lo hi r p n c ∧ l.length = n ∧ Ens w p l ∧ (p = none → n = 0) := by
  obtain ⟨p, c, hv, hs⟩ := h
  obtain ⟨f, lo, hi, r, l⟩ := g
  exact ⟨f, lo, hi, r, p, l.length, c, l, rfl, hv, rfl, hs.ens, fun e => hs.none e⟩

/-- What is answered of a key, its parts by name. -/
theorem fv_parts (o : Option En) : ∃ k s g c t, fv o = .tuple #[.agg #[.string k, .int .i64 s, .int .i64 g, .int .i64 c], .bool t] := ⟨_, _, _, _, _, rfl⟩

theorem Pg.putL_len (l : List En) (e : En) : (Pg.putL l e).length ≤ l.length + 1 := by
  unfold Pg.putL
  split
  · rw [List.length_set]; omega
  · rw [Pg.ins_len List.findIdx_le_length]; exact Nat.le_refl _

set_option maxHeartbeats 8000000 in
theorem walk_pageKeeps (pf : Bool) (plo phi : ByteArray) (pr : Int) (pp : Option Addr) (pn pc : Nat) (pl : List En) (e : En) (other : ByteArray) (w : World) (hp : InE 3518437208780 w pp pn pc pl) (hkey : other.size ≤ 140737488351232) :
    Calls Try.prog 7 #[pgv pf plo phi pr pp pn pc, e.val, .string other] w fun x w' => x = .returned (.bool true) ∧ Below w.heap.size w w' := by
  have HP : Hid (InE 3518437208780 w pp pn pc pl) := hp
  have hpn : pn ≤ 3518437208780 := hp.room
  clear hp hkey
  cases hmay : Pg.may pf ⟨plo, phi⟩ pr pl with
  | false =>
    obtain ⟨w0, hw0⟩ : ∃ w0, (w.alloc (.cells #[.bool pf, .string plo, .string phi, .int .i64 pr, .slice pp pn pc] 24)).alloc (.cells #[.string e.key, .int .i64 e.s, .int .i64 e.g, .int .i64 e.c] 28) = w0 := ⟨_, rfl⟩
    have HBW : Hid (Below w.heap.size w w0) := by rw [← hw0]; exact ((Below.refl _ _).alloc (Nat.le_refl _) _).alloc (by simp) _
    have HXp : Hid (Bk w0 w.heap.size 24 #[.bool pf, .string plo, .string phi, .int .i64 pr, .slice pp pn pc]) := by rw [← hw0]; exact (Bk.new _ _ _).alloc _
    have HXe : Hid (Bk w0 (w.heap.size + 1) 28 #[.string e.key, .int .i64 e.s, .int .i64 e.g, .int .i64 e.c]) := by rw [← hw0]; exact Bk.new1 _ _ _ _
    have HEp : Hid (Ens w0 pp (pl)) := HP.out.ens.below HBW.out (Nat.le_refl _)
    have p_0 : w0.cell? ⟨w.heap.size, 0, none⟩ = some (.bool pf) := HXp.out.cell 0
    have p_1 : w0.cell? ⟨w.heap.size, 1, none⟩ = some (.string plo) := HXp.out.cell 1
    have p_2 : w0.cell? ⟨w.heap.size, 2, none⟩ = some (.string phi) := HXp.out.cell 2
    have p_3 : w0.cell? ⟨w.heap.size, 3, none⟩ = some (.int .i64 pr) := HXp.out.cell 3
    have p_4 : w0.cell? ⟨w.heap.size, 4, none⟩ = some (.slice pp pn pc) := HXp.out.cell 4
    go_enter Try.func7, Try.ntmps7
    go_wp2_with fail
    clear p_0 p_1 p_2 p_3 p_4 hw0
    refine (rcheck_any pf plo phi pr pp pn pc pl _ HP.out.lenq HEp.out (by omega)).mono ?_
    rw [hmay]
    simp only [Bool.false_eq_true, if_false]
    rintro x w1 ⟨rfl, hb⟩
    have HXp : Hid (Bk w1 (w.heap.size) 24 #[.bool pf, .string plo, .string phi, .int .i64 pr, .slice pp pn pc]) := HXp.out.below hb HXp.out.lt
    have HXe : Hid (Bk w1 (w.heap.size + 1) 28 #[.string e.key, .int .i64 e.s, .int .i64 e.g, .int .i64 e.c]) := HXe.out.below hb HXe.out.lt
    have HEp : Hid (Ens w1 pp (pl)) := HEp.out.below hb (Nat.le_refl _)
    have HBW : Hid (Below w.heap.size w w1) := HBW.out.trans (hb.mono HBW.out.size)
    clear hb
    go_wp2_with fail
    refine (live_any _).mono ?_
    rintro x w2 ⟨rfl, hb⟩
    have HXp : Hid (Bk w2 (w.heap.size) 24 #[.bool pf, .string plo, .string phi, .int .i64 pr, .slice pp pn pc]) := HXp.out.below hb HXp.out.lt
    have HXe : Hid (Bk w2 (w.heap.size + 1) 28 #[.string e.key, .int .i64 e.s, .int .i64 e.g, .int .i64 e.c]) := HXe.out.below hb HXe.out.lt
    have HEp : Hid (Ens w2 pp (pl)) := HEp.out.below hb (Nat.le_refl _)
    have HBW : Hid (Below w.heap.size w w2) := HBW.out.trans (hb.mono HBW.out.size)
    clear hb
    go_wp2
    go_ret
    exact ⟨rfl, HBW.out⟩
  | true =>
    cases pf with
    | false =>
      obtain ⟨w0, hw0⟩ : ∃ w0, (w.alloc (.cells #[.bool false, .string plo, .string phi, .int .i64 pr, .slice pp pn pc] 24)).alloc (.cells #[.string e.key, .int .i64 e.s, .int .i64 e.g, .int .i64 e.c] 28) = w0 := ⟨_, rfl⟩
      have HBW : Hid (Below w.heap.size w w0) := by rw [← hw0]; exact ((Below.refl _ _).alloc (Nat.le_refl _) _).alloc (by simp) _
      have HXp : Hid (Bk w0 w.heap.size 24 #[.bool false, .string plo, .string phi, .int .i64 pr, .slice pp pn pc]) := by rw [← hw0]; exact (Bk.new _ _ _).alloc _
      have HXe : Hid (Bk w0 (w.heap.size + 1) 28 #[.string e.key, .int .i64 e.s, .int .i64 e.g, .int .i64 e.c]) := by rw [← hw0]; exact Bk.new1 _ _ _ _
      have HEp : Hid (Ens w0 pp (pl)) := HP.out.ens.below HBW.out (Nat.le_refl _)
      have p_0 : w0.cell? ⟨w.heap.size, 0, none⟩ = some (.bool false) := HXp.out.cell 0
      have p_1 : w0.cell? ⟨w.heap.size, 1, none⟩ = some (.string plo) := HXp.out.cell 1
      have p_2 : w0.cell? ⟨w.heap.size, 2, none⟩ = some (.string phi) := HXp.out.cell 2
      have p_3 : w0.cell? ⟨w.heap.size, 3, none⟩ = some (.int .i64 pr) := HXp.out.cell 3
      have p_4 : w0.cell? ⟨w.heap.size, 4, none⟩ = some (.slice pp pn pc) := HXp.out.cell 4
      go_enter Try.func7, Try.ntmps7
      go_wp2_with fail
      clear p_0 p_1 p_2 p_3 p_4 hw0
      refine (rcheck_any false plo phi pr pp pn pc pl _ HP.out.lenq HEp.out (by omega)).mono ?_
      rw [hmay]
      simp only [if_true]
      rintro x w1 ⟨rfl, hb⟩
      have HXp : Hid (Bk w1 (w.heap.size) 24 #[.bool false, .string plo, .string phi, .int .i64 pr, .slice pp pn pc]) := HXp.out.below hb HXp.out.lt
      have HXe : Hid (Bk w1 (w.heap.size + 1) 28 #[.string e.key, .int .i64 e.s, .int .i64 e.g, .int .i64 e.c]) := HXe.out.below hb HXe.out.lt
      have HEp : Hid (Ens w1 pp (pl)) := HEp.out.below hb (Nat.le_refl _)
      have HBW : Hid (Below w.heap.size w w1) := HBW.out.trans (hb.mono HBW.out.size)
      clear hb
      have p_0 : w1.cell? ⟨w.heap.size, 0, none⟩ = some (.bool false) := HXp.out.cell 0
      have p_1 : w1.cell? ⟨w.heap.size, 1, none⟩ = some (.string plo) := HXp.out.cell 1
      have p_2 : w1.cell? ⟨w.heap.size, 2, none⟩ = some (.string phi) := HXp.out.cell 2
      have p_3 : w1.cell? ⟨w.heap.size, 3, none⟩ = some (.int .i64 pr) := HXp.out.cell 3
      have p_4 : w1.cell? ⟨w.heap.size, 4, none⟩ = some (.slice pp pn pc) := HXp.out.cell 4
      go_wp2_with fail
      clear p_0 p_1 p_2 p_3 p_4
      refine (live_any _).mono ?_
      rintro x w2 ⟨rfl, hb⟩
      have HXp : Hid (Bk w2 (w.heap.size) 24 #[.bool false, .string plo, .string phi, .int .i64 pr, .slice pp pn pc]) := HXp.out.below hb HXp.out.lt
      have HXe : Hid (Bk w2 (w.heap.size + 1) 28 #[.string e.key, .int .i64 e.s, .int .i64 e.g, .int .i64 e.c]) := HXe.out.below hb HXe.out.lt
      have HEp : Hid (Ens w2 pp (pl)) := HEp.out.below hb (Nat.le_refl _)
      have HBW : Hid (Below w.heap.size w w2) := HBW.out.trans (hb.mono HBW.out.size)
      clear hb
      go_wp2
      go_ret
      exact ⟨rfl, HBW.out⟩
    | true =>
      have HRS : Hid (Pg.Ris pl) := Pg.fits_ris (Pg.may_parts hmay).2.1
      cases hin : Ky.inn ⟨plo, phi⟩ e.key with
      | false =>
        obtain ⟨w0, hw0⟩ : ∃ w0, (w.alloc (.cells #[.bool true, .string plo, .string phi, .int .i64 pr, .slice pp pn pc] 24)).alloc (.cells #[.string e.key, .int .i64 e.s, .int .i64 e.g, .int .i64 e.c] 28) = w0 := ⟨_, rfl⟩
        have HBW : Hid (Below w.heap.size w w0) := by rw [← hw0]; exact ((Below.refl _ _).alloc (Nat.le_refl _) _).alloc (by simp) _
        have HXp : Hid (Bk w0 w.heap.size 24 #[.bool true, .string plo, .string phi, .int .i64 pr, .slice pp pn pc]) := by rw [← hw0]; exact (Bk.new _ _ _).alloc _
        have HXe : Hid (Bk w0 (w.heap.size + 1) 28 #[.string e.key, .int .i64 e.s, .int .i64 e.g, .int .i64 e.c]) := by rw [← hw0]; exact Bk.new1 _ _ _ _
        have HEp : Hid (Ens w0 pp (pl)) := HP.out.ens.below HBW.out (Nat.le_refl _)
        have p_0 : w0.cell? ⟨w.heap.size, 0, none⟩ = some (.bool true) := HXp.out.cell 0
        have p_1 : w0.cell? ⟨w.heap.size, 1, none⟩ = some (.string plo) := HXp.out.cell 1
        have p_2 : w0.cell? ⟨w.heap.size, 2, none⟩ = some (.string phi) := HXp.out.cell 2
        have p_3 : w0.cell? ⟨w.heap.size, 3, none⟩ = some (.int .i64 pr) := HXp.out.cell 3
        have p_4 : w0.cell? ⟨w.heap.size, 4, none⟩ = some (.slice pp pn pc) := HXp.out.cell 4
        go_enter Try.func7, Try.ntmps7
        go_wp2_with fail
        clear p_0 p_1 p_2 p_3 p_4 hw0
        refine (rcheck_any true plo phi pr pp pn pc pl _ HP.out.lenq HEp.out (by omega)).mono ?_
        rw [hmay]
        simp only [if_true]
        rintro x w1 ⟨rfl, hb⟩
        have HXp : Hid (Bk w1 (w.heap.size) 24 #[.bool true, .string plo, .string phi, .int .i64 pr, .slice pp pn pc]) := HXp.out.below hb HXp.out.lt
        have HXe : Hid (Bk w1 (w.heap.size + 1) 28 #[.string e.key, .int .i64 e.s, .int .i64 e.g, .int .i64 e.c]) := HXe.out.below hb HXe.out.lt
        have HEp : Hid (Ens w1 pp (pl)) := HEp.out.below hb (Nat.le_refl _)
        have HBW : Hid (Below w.heap.size w w1) := HBW.out.trans (hb.mono HBW.out.size)
        clear hb
        have p_0 : w1.cell? ⟨w.heap.size, 0, none⟩ = some (.bool true) := HXp.out.cell 0
        have p_1 : w1.cell? ⟨w.heap.size, 1, none⟩ = some (.string plo) := HXp.out.cell 1
        have p_2 : w1.cell? ⟨w.heap.size, 2, none⟩ = some (.string phi) := HXp.out.cell 2
        have p_3 : w1.cell? ⟨w.heap.size, 3, none⟩ = some (.int .i64 pr) := HXp.out.cell 3
        have p_4 : w1.cell? ⟨w.heap.size, 4, none⟩ = some (.slice pp pn pc) := HXp.out.cell 4
        go_wp2_with fail
        clear p_0 p_1 p_2 p_3 p_4
        refine (live_any _).mono ?_
        rintro x w2 ⟨rfl, hb⟩
        have HXp : Hid (Bk w2 (w.heap.size) 24 #[.bool true, .string plo, .string phi, .int .i64 pr, .slice pp pn pc]) := HXp.out.below hb HXp.out.lt
        have HXe : Hid (Bk w2 (w.heap.size + 1) 28 #[.string e.key, .int .i64 e.s, .int .i64 e.g, .int .i64 e.c]) := HXe.out.below hb HXe.out.lt
        have HEp : Hid (Ens w2 pp (pl)) := HEp.out.below hb (Nat.le_refl _)
        have HBW : Hid (Below w.heap.size w w2) := HBW.out.trans (hb.mono HBW.out.size)
        clear hb
        have p_0 : w2.cell? ⟨w.heap.size, 0, none⟩ = some (.bool true) := HXp.out.cell 0
        have p_1 : w2.cell? ⟨w.heap.size, 1, none⟩ = some (.string plo) := HXp.out.cell 1
        have p_2 : w2.cell? ⟨w.heap.size, 2, none⟩ = some (.string phi) := HXp.out.cell 2
        have p_3 : w2.cell? ⟨w.heap.size, 3, none⟩ = some (.int .i64 pr) := HXp.out.cell 3
        have p_4 : w2.cell? ⟨w.heap.size, 4, none⟩ = some (.slice pp pn pc) := HXp.out.cell 4
        go_wp2_with fail
        clear p_0 p_1 p_2 p_3 p_4
        refine (find_ord true plo phi pr pp pn pc pl other _ HP.out.lenq HEp.out (by omega) (fun h => by cases h)).mono ?_
        obtain ⟨xk, xs, xg, xc, t, hfv⟩ := fv_parts (Pg.find true pl other)
        have HFV : Hid (fv (Pg.find true pl other) = .tuple #[.agg #[.string xk, .int .i64 xs, .int .i64 xg, .int .i64 xc], .bool t]) := hfv
        rw [hfv]
        clear hfv
        rintro x w3 ⟨rfl, hb⟩
        have HXp : Hid (Bk w3 (w.heap.size) 24 #[.bool true, .string plo, .string phi, .int .i64 pr, .slice pp pn pc]) := HXp.out.below hb HXp.out.lt
        have HXe : Hid (Bk w3 (w.heap.size + 1) 28 #[.string e.key, .int .i64 e.s, .int .i64 e.g, .int .i64 e.c]) := HXe.out.below hb HXe.out.lt
        have HEp : Hid (Ens w3 pp (pl)) := HEp.out.below hb (Nat.le_refl _)
        have HBW : Hid (Below w.heap.size w w3) := HBW.out.trans (hb.mono HBW.out.size)
        clear hb
        obtain ⟨w4, hw4⟩ : ∃ w4, w3.alloc (.cells #[.string xk, .int .i64 xs, .int .i64 xg, .int .i64 xc] 28) = w4 := ⟨_, rfl⟩
        have hb : Below w3.heap.size w3 w4 := by rw [← hw4]; exact (Below.refl _ _).alloc (Nat.le_refl _) _
        have HXwas : Hid (Bk w4 w3.heap.size 28 #[.string xk, .int .i64 xs, .int .i64 xg, .int .i64 xc]) := by rw [← hw4]; exact Bk.new _ _ _
        have HXp : Hid (Bk w4 (w.heap.size) 24 #[.bool true, .string plo, .string phi, .int .i64 pr, .slice pp pn pc]) := HXp.out.below hb HXp.out.lt
        have HXe : Hid (Bk w4 (w.heap.size + 1) 28 #[.string e.key, .int .i64 e.s, .int .i64 e.g, .int .i64 e.c]) := HXe.out.below hb HXe.out.lt
        have HEp : Hid (Ens w4 pp (pl)) := HEp.out.below hb (Nat.le_refl _)
        have HBW : Hid (Below w.heap.size w w4) := HBW.out.trans (hb.mono HBW.out.size)
        clear hb
        have p_0 : w4.cell? ⟨w.heap.size, 0, none⟩ = some (.bool true) := HXp.out.cell 0
        have p_1 : w4.cell? ⟨w.heap.size, 1, none⟩ = some (.string plo) := HXp.out.cell 1
        have p_2 : w4.cell? ⟨w.heap.size, 2, none⟩ = some (.string phi) := HXp.out.cell 2
        have p_3 : w4.cell? ⟨w.heap.size, 3, none⟩ = some (.int .i64 pr) := HXp.out.cell 3
        have p_4 : w4.cell? ⟨w.heap.size, 4, none⟩ = some (.slice pp pn pc) := HXp.out.cell 4
        have e_0 : w4.cell? ⟨w.heap.size + 1, 0, none⟩ = some (.string e.key) := HXe.out.cell 0
        have e_1 : w4.cell? ⟨w.heap.size + 1, 1, none⟩ = some (.int .i64 e.s) := HXe.out.cell 1
        have e_2 : w4.cell? ⟨w.heap.size + 1, 2, none⟩ = some (.int .i64 e.g) := HXe.out.cell 2
        have e_3 : w4.cell? ⟨w.heap.size + 1, 3, none⟩ = some (.int .i64 e.c) := HXe.out.cell 3
        go_wp2_with fail
        clear hw4 p_0 p_1 p_2 p_3 p_4 e_0 e_1 e_2 e_3
        refine (put_any true plo phi pr pp pn pc pl e _ HP.out.lenq HEp.out (by omega) HP.out.nil).mono ?_
        have hpt : Pg.put ⟨true, plo, phi, pr, pl⟩ e = (Pg.zero, 73) := by unfold Pg.put; rw [hin]; rfl
        rw [hpt]
        clear hpt
        rintro x w5 ⟨v, rfl, hga, hb⟩
        have HXp : Hid (Bk w5 (w.heap.size) 24 #[.bool true, .string plo, .string phi, .int .i64 pr, .slice pp pn pc]) := HXp.out.below hb HXp.out.lt
        have HXe : Hid (Bk w5 (w.heap.size + 1) 28 #[.string e.key, .int .i64 e.s, .int .i64 e.g, .int .i64 e.c]) := HXe.out.below hb HXe.out.lt
        have HXwas : Hid (Bk w5 (w3.heap.size) 28 #[.string xk, .int .i64 xs, .int .i64 xg, .int .i64 xc]) := HXwas.out.below hb HXwas.out.lt
        have HEp : Hid (Ens w5 pp (pl)) := HEp.out.below hb (Nat.le_refl _)
        have HBW : Hid (Below w.heap.size w w5) := HBW.out.trans (hb.mono HBW.out.size)
        obtain ⟨qp, qc, hqv, -⟩ := hga
        subst hqv
        clear hb
        obtain ⟨w6, hw6⟩ : ∃ w6, w5.alloc (.cells #[.bool false, .string ⟨#[]⟩, .string ⟨#[]⟩, .int .i64 0, .slice qp 0 qc] 24) = w6 := ⟨_, rfl⟩
        have hb : Below w5.heap.size w5 w6 := by rw [← hw6]; exact (Below.refl _ _).alloc (Nat.le_refl _) _
        have HXq : Hid (Bk w6 w5.heap.size 24 #[.bool false, .string ⟨#[]⟩, .string ⟨#[]⟩, .int .i64 0, .slice qp 0 qc]) := by rw [← hw6]; exact Bk.new _ _ _
        have HXp : Hid (Bk w6 (w.heap.size) 24 #[.bool true, .string plo, .string phi, .int .i64 pr, .slice pp pn pc]) := HXp.out.below hb HXp.out.lt
        have HXe : Hid (Bk w6 (w.heap.size + 1) 28 #[.string e.key, .int .i64 e.s, .int .i64 e.g, .int .i64 e.c]) := HXe.out.below hb HXe.out.lt
        have HXwas : Hid (Bk w6 (w3.heap.size) 28 #[.string xk, .int .i64 xs, .int .i64 xg, .int .i64 xc]) := HXwas.out.below hb HXwas.out.lt
        have HEp : Hid (Ens w6 pp (pl)) := HEp.out.below hb (Nat.le_refl _)
        have HBW : Hid (Below w.heap.size w w6) := HBW.out.trans (hb.mono HBW.out.size)
        clear hb
        have p_0 : w6.cell? ⟨w.heap.size, 0, none⟩ = some (.bool true) := HXp.out.cell 0
        have p_1 : w6.cell? ⟨w.heap.size, 1, none⟩ = some (.string plo) := HXp.out.cell 1
        have p_2 : w6.cell? ⟨w.heap.size, 2, none⟩ = some (.string phi) := HXp.out.cell 2
        have p_3 : w6.cell? ⟨w.heap.size, 3, none⟩ = some (.int .i64 pr) := HXp.out.cell 3
        have p_4 : w6.cell? ⟨w.heap.size, 4, none⟩ = some (.slice pp pn pc) := HXp.out.cell 4
        have e_0 : w6.cell? ⟨w.heap.size + 1, 0, none⟩ = some (.string e.key) := HXe.out.cell 0
        have e_1 : w6.cell? ⟨w.heap.size + 1, 1, none⟩ = some (.int .i64 e.s) := HXe.out.cell 1
        have e_2 : w6.cell? ⟨w.heap.size + 1, 2, none⟩ = some (.int .i64 e.g) := HXe.out.cell 2
        have e_3 : w6.cell? ⟨w.heap.size + 1, 3, none⟩ = some (.int .i64 e.c) := HXe.out.cell 3
        go_wp2_with fail
        clear hw6 p_0 p_1 p_2 p_3 p_4 e_0 e_1 e_2 e_3
        refine (has_any true plo phi pr pp pn pc _ e.key).mono ?_
        rw [hin]
        rintro x w7 ⟨rfl, hb⟩
        have HXp : Hid (Bk w7 (w.heap.size) 24 #[.bool true, .string plo, .string phi, .int .i64 pr, .slice pp pn pc]) := HXp.out.below hb HXp.out.lt
        have HXe : Hid (Bk w7 (w.heap.size + 1) 28 #[.string e.key, .int .i64 e.s, .int .i64 e.g, .int .i64 e.c]) := HXe.out.below hb HXe.out.lt
        have HXwas : Hid (Bk w7 (w3.heap.size) 28 #[.string xk, .int .i64 xs, .int .i64 xg, .int .i64 xc]) := HXwas.out.below hb HXwas.out.lt
        have HXq : Hid (Bk w7 (w5.heap.size) 24 #[.bool false, .string ⟨#[]⟩, .string ⟨#[]⟩, .int .i64 0, .slice qp 0 qc]) := HXq.out.below hb HXq.out.lt
        have HEp : Hid (Ens w7 pp (pl)) := HEp.out.below hb (Nat.le_refl _)
        have HBW : Hid (Below w.heap.size w w7) := HBW.out.trans (hb.mono HBW.out.size)
        clear hb
        go_wp2
        go_ret
        exact ⟨rfl, HBW.out⟩
      | true =>
        have hpt : Pg.put ⟨true, plo, phi, pr, pl⟩ e = (⟨true, plo, phi, pr, Pg.putL pl e⟩, 0) := by unfold Pg.put; rw [hin]; rfl
        have HPT : Hid (Pg.put ⟨true, plo, phi, pr, pl⟩ e = (⟨true, plo, phi, pr, Pg.putL pl e⟩, 0)) := hpt
        clear hpt
        by_cases hoe : other = e.key
        · subst hoe
          obtain ⟨w0, hw0⟩ : ∃ w0, (w.alloc (.cells #[.bool true, .string plo, .string phi, .int .i64 pr, .slice pp pn pc] 24)).alloc (.cells #[.string e.key, .int .i64 e.s, .int .i64 e.g, .int .i64 e.c] 28) = w0 := ⟨_, rfl⟩
          have HBW : Hid (Below w.heap.size w w0) := by rw [← hw0]; exact ((Below.refl _ _).alloc (Nat.le_refl _) _).alloc (by simp) _
          have HXp : Hid (Bk w0 w.heap.size 24 #[.bool true, .string plo, .string phi, .int .i64 pr, .slice pp pn pc]) := by rw [← hw0]; exact (Bk.new _ _ _).alloc _
          have HXe : Hid (Bk w0 (w.heap.size + 1) 28 #[.string e.key, .int .i64 e.s, .int .i64 e.g, .int .i64 e.c]) := by rw [← hw0]; exact Bk.new1 _ _ _ _
          have HEp : Hid (Ens w0 pp (pl)) := HP.out.ens.below HBW.out (Nat.le_refl _)
          have p_0 : w0.cell? ⟨w.heap.size, 0, none⟩ = some (.bool true) := HXp.out.cell 0
          have p_1 : w0.cell? ⟨w.heap.size, 1, none⟩ = some (.string plo) := HXp.out.cell 1
          have p_2 : w0.cell? ⟨w.heap.size, 2, none⟩ = some (.string phi) := HXp.out.cell 2
          have p_3 : w0.cell? ⟨w.heap.size, 3, none⟩ = some (.int .i64 pr) := HXp.out.cell 3
          have p_4 : w0.cell? ⟨w.heap.size, 4, none⟩ = some (.slice pp pn pc) := HXp.out.cell 4
          go_enter Try.func7, Try.ntmps7
          go_wp2_with fail
          clear p_0 p_1 p_2 p_3 p_4 hw0
          refine (rcheck_any true plo phi pr pp pn pc pl _ HP.out.lenq HEp.out (by omega)).mono ?_
          rw [hmay]
          simp only [if_true]
          rintro x w1 ⟨rfl, hb⟩
          have HXp : Hid (Bk w1 (w.heap.size) 24 #[.bool true, .string plo, .string phi, .int .i64 pr, .slice pp pn pc]) := HXp.out.below hb HXp.out.lt
          have HXe : Hid (Bk w1 (w.heap.size + 1) 28 #[.string e.key, .int .i64 e.s, .int .i64 e.g, .int .i64 e.c]) := HXe.out.below hb HXe.out.lt
          have HEp : Hid (Ens w1 pp (pl)) := HEp.out.below hb (Nat.le_refl _)
          have HBW : Hid (Below w.heap.size w w1) := HBW.out.trans (hb.mono HBW.out.size)
          clear hb
          have p_0 : w1.cell? ⟨w.heap.size, 0, none⟩ = some (.bool true) := HXp.out.cell 0
          have p_1 : w1.cell? ⟨w.heap.size, 1, none⟩ = some (.string plo) := HXp.out.cell 1
          have p_2 : w1.cell? ⟨w.heap.size, 2, none⟩ = some (.string phi) := HXp.out.cell 2
          have p_3 : w1.cell? ⟨w.heap.size, 3, none⟩ = some (.int .i64 pr) := HXp.out.cell 3
          have p_4 : w1.cell? ⟨w.heap.size, 4, none⟩ = some (.slice pp pn pc) := HXp.out.cell 4
          go_wp2_with fail
          clear p_0 p_1 p_2 p_3 p_4
          refine (live_any _).mono ?_
          rintro x w2 ⟨rfl, hb⟩
          have HXp : Hid (Bk w2 (w.heap.size) 24 #[.bool true, .string plo, .string phi, .int .i64 pr, .slice pp pn pc]) := HXp.out.below hb HXp.out.lt
          have HXe : Hid (Bk w2 (w.heap.size + 1) 28 #[.string e.key, .int .i64 e.s, .int .i64 e.g, .int .i64 e.c]) := HXe.out.below hb HXe.out.lt
          have HEp : Hid (Ens w2 pp (pl)) := HEp.out.below hb (Nat.le_refl _)
          have HBW : Hid (Below w.heap.size w w2) := HBW.out.trans (hb.mono HBW.out.size)
          clear hb
          have p_0 : w2.cell? ⟨w.heap.size, 0, none⟩ = some (.bool true) := HXp.out.cell 0
          have p_1 : w2.cell? ⟨w.heap.size, 1, none⟩ = some (.string plo) := HXp.out.cell 1
          have p_2 : w2.cell? ⟨w.heap.size, 2, none⟩ = some (.string phi) := HXp.out.cell 2
          have p_3 : w2.cell? ⟨w.heap.size, 3, none⟩ = some (.int .i64 pr) := HXp.out.cell 3
          have p_4 : w2.cell? ⟨w.heap.size, 4, none⟩ = some (.slice pp pn pc) := HXp.out.cell 4
          go_wp2_with fail
          clear p_0 p_1 p_2 p_3 p_4
          refine (find_ord true plo phi pr pp pn pc pl e.key _ HP.out.lenq HEp.out (by omega) (fun h => by cases h)).mono ?_
          obtain ⟨xk, xs, xg, xc, t, hfv⟩ := fv_parts (Pg.find true pl e.key)
          have HFV : Hid (fv (Pg.find true pl e.key) = .tuple #[.agg #[.string xk, .int .i64 xs, .int .i64 xg, .int .i64 xc], .bool t]) := hfv
          rw [hfv]
          clear hfv
          rintro x w3 ⟨rfl, hb⟩
          have HXp : Hid (Bk w3 (w.heap.size) 24 #[.bool true, .string plo, .string phi, .int .i64 pr, .slice pp pn pc]) := HXp.out.below hb HXp.out.lt
          have HXe : Hid (Bk w3 (w.heap.size + 1) 28 #[.string e.key, .int .i64 e.s, .int .i64 e.g, .int .i64 e.c]) := HXe.out.below hb HXe.out.lt
          have HEp : Hid (Ens w3 pp (pl)) := HEp.out.below hb (Nat.le_refl _)
          have HBW : Hid (Below w.heap.size w w3) := HBW.out.trans (hb.mono HBW.out.size)
          clear hb
          obtain ⟨w4, hw4⟩ : ∃ w4, w3.alloc (.cells #[.string xk, .int .i64 xs, .int .i64 xg, .int .i64 xc] 28) = w4 := ⟨_, rfl⟩
          have hb : Below w3.heap.size w3 w4 := by rw [← hw4]; exact (Below.refl _ _).alloc (Nat.le_refl _) _
          have HXwas : Hid (Bk w4 w3.heap.size 28 #[.string xk, .int .i64 xs, .int .i64 xg, .int .i64 xc]) := by rw [← hw4]; exact Bk.new _ _ _
          have HXp : Hid (Bk w4 (w.heap.size) 24 #[.bool true, .string plo, .string phi, .int .i64 pr, .slice pp pn pc]) := HXp.out.below hb HXp.out.lt
          have HXe : Hid (Bk w4 (w.heap.size + 1) 28 #[.string e.key, .int .i64 e.s, .int .i64 e.g, .int .i64 e.c]) := HXe.out.below hb HXe.out.lt
          have HEp : Hid (Ens w4 pp (pl)) := HEp.out.below hb (Nat.le_refl _)
          have HBW : Hid (Below w.heap.size w w4) := HBW.out.trans (hb.mono HBW.out.size)
          clear hb
          have p_0 : w4.cell? ⟨w.heap.size, 0, none⟩ = some (.bool true) := HXp.out.cell 0
          have p_1 : w4.cell? ⟨w.heap.size, 1, none⟩ = some (.string plo) := HXp.out.cell 1
          have p_2 : w4.cell? ⟨w.heap.size, 2, none⟩ = some (.string phi) := HXp.out.cell 2
          have p_3 : w4.cell? ⟨w.heap.size, 3, none⟩ = some (.int .i64 pr) := HXp.out.cell 3
          have p_4 : w4.cell? ⟨w.heap.size, 4, none⟩ = some (.slice pp pn pc) := HXp.out.cell 4
          have e_0 : w4.cell? ⟨w.heap.size + 1, 0, none⟩ = some (.string e.key) := HXe.out.cell 0
          have e_1 : w4.cell? ⟨w.heap.size + 1, 1, none⟩ = some (.int .i64 e.s) := HXe.out.cell 1
          have e_2 : w4.cell? ⟨w.heap.size + 1, 2, none⟩ = some (.int .i64 e.g) := HXe.out.cell 2
          have e_3 : w4.cell? ⟨w.heap.size + 1, 3, none⟩ = some (.int .i64 e.c) := HXe.out.cell 3
          go_wp2_with fail
          clear hw4 p_0 p_1 p_2 p_3 p_4 e_0 e_1 e_2 e_3
          refine (put_any true plo phi pr pp pn pc pl e _ HP.out.lenq HEp.out (by omega) HP.out.nil).mono ?_
          rw [HPT.out]
          rintro x w5 ⟨v, rfl, hga, hb⟩
          have HXp : Hid (Bk w5 (w.heap.size) 24 #[.bool true, .string plo, .string phi, .int .i64 pr, .slice pp pn pc]) := HXp.out.below hb HXp.out.lt
          have HXe : Hid (Bk w5 (w.heap.size + 1) 28 #[.string e.key, .int .i64 e.s, .int .i64 e.g, .int .i64 e.c]) := HXe.out.below hb HXe.out.lt
          have HXwas : Hid (Bk w5 (w3.heap.size) 28 #[.string xk, .int .i64 xs, .int .i64 xg, .int .i64 xc]) := HXwas.out.below hb HXwas.out.lt
          have HEp : Hid (Ens w5 pp (pl)) := HEp.out.below hb (Nat.le_refl _)
          have HBW : Hid (Below w.heap.size w w5) := HBW.out.trans (hb.mono HBW.out.size)
          obtain ⟨qf, qlo, qhi, qr, qp, qn, qc, ql, hq, rfl, hqn, hqe, -⟩ := hga.parts
          simp only [Pp.mk.injEq] at hq
          obtain ⟨rfl, rfl, rfl, rfl, rfl⟩ := hq
          have HNq : Hid ((Pg.putL pl e).length = qn) := hqn
          have hqb : qn ≤ 3518437208781 := by have h1 := Pg.putL_len pl e; have h2 := HP.out.lenq; omega
          have HEq : Hid (Ens w5 qp (Pg.putL pl e)) := hqe
          clear hb hga hqn hqe
          obtain ⟨w6, hw6⟩ : ∃ w6, w5.alloc (.cells #[.bool true, .string plo, .string phi, .int .i64 pr, .slice qp qn qc] 24) = w6 := ⟨_, rfl⟩
          have hb : Below w5.heap.size w5 w6 := by rw [← hw6]; exact (Below.refl _ _).alloc (Nat.le_refl _) _
          have HXq : Hid (Bk w6 w5.heap.size 24 #[.bool true, .string plo, .string phi, .int .i64 pr, .slice qp qn qc]) := by rw [← hw6]; exact Bk.new _ _ _
          have HXp : Hid (Bk w6 (w.heap.size) 24 #[.bool true, .string plo, .string phi, .int .i64 pr, .slice pp pn pc]) := HXp.out.below hb HXp.out.lt
          have HXe : Hid (Bk w6 (w.heap.size + 1) 28 #[.string e.key, .int .i64 e.s, .int .i64 e.g, .int .i64 e.c]) := HXe.out.below hb HXe.out.lt
          have HXwas : Hid (Bk w6 (w3.heap.size) 28 #[.string xk, .int .i64 xs, .int .i64 xg, .int .i64 xc]) := HXwas.out.below hb HXwas.out.lt
          have HEp : Hid (Ens w6 pp (pl)) := HEp.out.below hb (Nat.le_refl _)
          have HEq : Hid (Ens w6 qp (Pg.putL pl e)) := HEq.out.below hb (Nat.le_refl _)
          have HBW : Hid (Below w.heap.size w w6) := HBW.out.trans (hb.mono HBW.out.size)
          clear hb
          have q_0 : w6.cell? ⟨w5.heap.size, 0, none⟩ = some (.bool true) := HXq.out.cell 0
          have q_1 : w6.cell? ⟨w5.heap.size, 1, none⟩ = some (.string plo) := HXq.out.cell 1
          have q_2 : w6.cell? ⟨w5.heap.size, 2, none⟩ = some (.string phi) := HXq.out.cell 2
          have q_3 : w6.cell? ⟨w5.heap.size, 3, none⟩ = some (.int .i64 pr) := HXq.out.cell 3
          have q_4 : w6.cell? ⟨w5.heap.size, 4, none⟩ = some (.slice qp qn qc) := HXq.out.cell 4
          have e_0 : w6.cell? ⟨w.heap.size + 1, 0, none⟩ = some (.string e.key) := HXe.out.cell 0
          have e_1 : w6.cell? ⟨w.heap.size + 1, 1, none⟩ = some (.int .i64 e.s) := HXe.out.cell 1
          have e_2 : w6.cell? ⟨w.heap.size + 1, 2, none⟩ = some (.int .i64 e.g) := HXe.out.cell 2
          have e_3 : w6.cell? ⟨w.heap.size + 1, 3, none⟩ = some (.int .i64 e.c) := HXe.out.cell 3
          go_wp2_with fail
          clear hw6 q_0 q_1 q_2 q_3 q_4 e_0 e_1 e_2 e_3
          refine (find_ord true plo phi pr qp qn qc (Pg.putL pl e) e.key _ HNq.out HEq.out (by omega) (fun h => by cases h)).mono ?_
          rw [Pg.keep_put]
          rintro x w7 ⟨rfl, hb⟩
          have HXp : Hid (Bk w7 (w.heap.size) 24 #[.bool true, .string plo, .string phi, .int .i64 pr, .slice pp pn pc]) := HXp.out.below hb HXp.out.lt
          have HXe : Hid (Bk w7 (w.heap.size + 1) 28 #[.string e.key, .int .i64 e.s, .int .i64 e.g, .int .i64 e.c]) := HXe.out.below hb HXe.out.lt
          have HXwas : Hid (Bk w7 (w3.heap.size) 28 #[.string xk, .int .i64 xs, .int .i64 xg, .int .i64 xc]) := HXwas.out.below hb HXwas.out.lt
          have HXq : Hid (Bk w7 (w5.heap.size) 24 #[.bool true, .string plo, .string phi, .int .i64 pr, .slice qp qn qc]) := HXq.out.below hb HXq.out.lt
          have HEp : Hid (Ens w7 pp (pl)) := HEp.out.below hb (Nat.le_refl _)
          have HEq : Hid (Ens w7 qp (Pg.putL pl e)) := HEq.out.below hb (Nat.le_refl _)
          have HBW : Hid (Below w.heap.size w w7) := HBW.out.trans (hb.mono HBW.out.size)
          clear hb
          obtain ⟨w8, hw8⟩ : ∃ w8, w7.alloc (.cells #[.string e.key, .int .i64 e.s, .int .i64 e.g, .int .i64 e.c] 28) = w8 := ⟨_, rfl⟩
          have hb : Below w7.heap.size w7 w8 := by rw [← hw8]; exact (Below.refl _ _).alloc (Nat.le_refl _) _
          have HXy : Hid (Bk w8 w7.heap.size 28 #[.string e.key, .int .i64 e.s, .int .i64 e.g, .int .i64 e.c]) := by rw [← hw8]; exact Bk.new _ _ _
          have HXp : Hid (Bk w8 (w.heap.size) 24 #[.bool true, .string plo, .string phi, .int .i64 pr, .slice pp pn pc]) := HXp.out.below hb HXp.out.lt
          have HXe : Hid (Bk w8 (w.heap.size + 1) 28 #[.string e.key, .int .i64 e.s, .int .i64 e.g, .int .i64 e.c]) := HXe.out.below hb HXe.out.lt
          have HXwas : Hid (Bk w8 (w3.heap.size) 28 #[.string xk, .int .i64 xs, .int .i64 xg, .int .i64 xc]) := HXwas.out.below hb HXwas.out.lt
          have HXq : Hid (Bk w8 (w5.heap.size) 24 #[.bool true, .string plo, .string phi, .int .i64 pr, .slice qp qn qc]) := HXq.out.below hb HXq.out.lt
          have HEp : Hid (Ens w8 pp (pl)) := HEp.out.below hb (Nat.le_refl _)
          have HEq : Hid (Ens w8 qp (Pg.putL pl e)) := HEq.out.below hb (Nat.le_refl _)
          have HBW : Hid (Below w.heap.size w w8) := HBW.out.trans (hb.mono HBW.out.size)
          clear hb
          have q_0 : w8.cell? ⟨w5.heap.size, 0, none⟩ = some (.bool true) := HXq.out.cell 0
          have q_1 : w8.cell? ⟨w5.heap.size, 1, none⟩ = some (.string plo) := HXq.out.cell 1
          have q_2 : w8.cell? ⟨w5.heap.size, 2, none⟩ = some (.string phi) := HXq.out.cell 2
          have q_3 : w8.cell? ⟨w5.heap.size, 3, none⟩ = some (.int .i64 pr) := HXq.out.cell 3
          have q_4 : w8.cell? ⟨w5.heap.size, 4, none⟩ = some (.slice qp qn qc) := HXq.out.cell 4
          have e_0 : w8.cell? ⟨w.heap.size + 1, 0, none⟩ = some (.string e.key) := HXe.out.cell 0
          have e_1 : w8.cell? ⟨w.heap.size + 1, 1, none⟩ = some (.int .i64 e.s) := HXe.out.cell 1
          have e_2 : w8.cell? ⟨w.heap.size + 1, 2, none⟩ = some (.int .i64 e.g) := HXe.out.cell 2
          have e_3 : w8.cell? ⟨w.heap.size + 1, 3, none⟩ = some (.int .i64 e.c) := HXe.out.cell 3
          have y_0 : w8.cell? ⟨w7.heap.size, 0, none⟩ = some (.string e.key) := HXy.out.cell 0
          have y_1 : w8.cell? ⟨w7.heap.size, 1, none⟩ = some (.int .i64 e.s) := HXy.out.cell 1
          have y_2 : w8.cell? ⟨w7.heap.size, 2, none⟩ = some (.int .i64 e.g) := HXy.out.cell 2
          have y_3 : w8.cell? ⟨w7.heap.size, 3, none⟩ = some (.int .i64 e.c) := HXy.out.cell 3
          go_wp2_with fail
          clear hw8 q_0 q_1 q_2 q_3 q_4 e_0 e_1 e_2 e_3 y_0 y_1 y_2 y_3
          refine (find_ord true plo phi pr qp qn qc (Pg.putL pl e) e.key _ HNq.out HEq.out (by omega) (fun h => by cases h)).mono ?_
          rw [Pg.keep_put]
          rintro x w9 ⟨rfl, hb⟩
          have HXp : Hid (Bk w9 (w.heap.size) 24 #[.bool true, .string plo, .string phi, .int .i64 pr, .slice pp pn pc]) := HXp.out.below hb HXp.out.lt
          have HXe : Hid (Bk w9 (w.heap.size + 1) 28 #[.string e.key, .int .i64 e.s, .int .i64 e.g, .int .i64 e.c]) := HXe.out.below hb HXe.out.lt
          have HXwas : Hid (Bk w9 (w3.heap.size) 28 #[.string xk, .int .i64 xs, .int .i64 xg, .int .i64 xc]) := HXwas.out.below hb HXwas.out.lt
          have HXq : Hid (Bk w9 (w5.heap.size) 24 #[.bool true, .string plo, .string phi, .int .i64 pr, .slice qp qn qc]) := HXq.out.below hb HXq.out.lt
          have HXy : Hid (Bk w9 (w7.heap.size) 28 #[.string e.key, .int .i64 e.s, .int .i64 e.g, .int .i64 e.c]) := HXy.out.below hb HXy.out.lt
          have HEp : Hid (Ens w9 pp (pl)) := HEp.out.below hb (Nat.le_refl _)
          have HEq : Hid (Ens w9 qp (Pg.putL pl e)) := HEq.out.below hb (Nat.le_refl _)
          have HBW : Hid (Below w.heap.size w w9) := HBW.out.trans (hb.mono HBW.out.size)
          clear hb
          obtain ⟨w10, hw10⟩ : ∃ w10, w9.alloc (.cells #[.string e.key, .int .i64 e.s, .int .i64 e.g, .int .i64 e.c] 28) = w10 := ⟨_, rfl⟩
          have hb : Below w9.heap.size w9 w10 := by rw [← hw10]; exact (Below.refl _ _).alloc (Nat.le_refl _) _
          have HXz : Hid (Bk w10 w9.heap.size 28 #[.string e.key, .int .i64 e.s, .int .i64 e.g, .int .i64 e.c]) := by rw [← hw10]; exact Bk.new _ _ _
          have HXp : Hid (Bk w10 (w.heap.size) 24 #[.bool true, .string plo, .string phi, .int .i64 pr, .slice pp pn pc]) := HXp.out.below hb HXp.out.lt
          have HXe : Hid (Bk w10 (w.heap.size + 1) 28 #[.string e.key, .int .i64 e.s, .int .i64 e.g, .int .i64 e.c]) := HXe.out.below hb HXe.out.lt
          have HXwas : Hid (Bk w10 (w3.heap.size) 28 #[.string xk, .int .i64 xs, .int .i64 xg, .int .i64 xc]) := HXwas.out.below hb HXwas.out.lt
          have HXq : Hid (Bk w10 (w5.heap.size) 24 #[.bool true, .string plo, .string phi, .int .i64 pr, .slice qp qn qc]) := HXq.out.below hb HXq.out.lt
          have HXy : Hid (Bk w10 (w7.heap.size) 28 #[.string e.key, .int .i64 e.s, .int .i64 e.g, .int .i64 e.c]) := HXy.out.below hb HXy.out.lt
          have HEp : Hid (Ens w10 pp (pl)) := HEp.out.below hb (Nat.le_refl _)
          have HEq : Hid (Ens w10 qp (Pg.putL pl e)) := HEq.out.below hb (Nat.le_refl _)
          have HBW : Hid (Below w.heap.size w w10) := HBW.out.trans (hb.mono HBW.out.size)
          clear hb
          have q_0 : w10.cell? ⟨w5.heap.size, 0, none⟩ = some (.bool true) := HXq.out.cell 0
          have q_1 : w10.cell? ⟨w5.heap.size, 1, none⟩ = some (.string plo) := HXq.out.cell 1
          have q_2 : w10.cell? ⟨w5.heap.size, 2, none⟩ = some (.string phi) := HXq.out.cell 2
          have q_3 : w10.cell? ⟨w5.heap.size, 3, none⟩ = some (.int .i64 pr) := HXq.out.cell 3
          have q_4 : w10.cell? ⟨w5.heap.size, 4, none⟩ = some (.slice qp qn qc) := HXq.out.cell 4
          have e_0 : w10.cell? ⟨w.heap.size + 1, 0, none⟩ = some (.string e.key) := HXe.out.cell 0
          have e_1 : w10.cell? ⟨w.heap.size + 1, 1, none⟩ = some (.int .i64 e.s) := HXe.out.cell 1
          have e_2 : w10.cell? ⟨w.heap.size + 1, 2, none⟩ = some (.int .i64 e.g) := HXe.out.cell 2
          have e_3 : w10.cell? ⟨w.heap.size + 1, 3, none⟩ = some (.int .i64 e.c) := HXe.out.cell 3
          have z_0 : w10.cell? ⟨w9.heap.size, 0, none⟩ = some (.string e.key) := HXz.out.cell 0
          have z_1 : w10.cell? ⟨w9.heap.size, 1, none⟩ = some (.int .i64 e.s) := HXz.out.cell 1
          have z_2 : w10.cell? ⟨w9.heap.size, 2, none⟩ = some (.int .i64 e.g) := HXz.out.cell 2
          have z_3 : w10.cell? ⟨w9.heap.size, 3, none⟩ = some (.int .i64 e.c) := HXz.out.cell 3
          have was_0 : w10.cell? ⟨w3.heap.size, 0, none⟩ = some (.string xk) := HXwas.out.cell 0
          have was_1 : w10.cell? ⟨w3.heap.size, 1, none⟩ = some (.int .i64 xs) := HXwas.out.cell 1
          have was_2 : w10.cell? ⟨w3.heap.size, 2, none⟩ = some (.int .i64 xg) := HXwas.out.cell 2
          have was_3 : w10.cell? ⟨w3.heap.size, 3, none⟩ = some (.int .i64 xc) := HXwas.out.cell 3
          have hot : (e.key.toList == e.key.toList) = true := by simp
          have tt : (t == t) = true := by simp
          go_wp2_with fail
          clear hw10 q_0 q_1 q_2 q_3 q_4 e_0 e_1 e_2 e_3 z_0 z_1 z_2 z_3 was_0 was_1 was_2 was_3
          refine (remove_any true plo phi pr qp qn qc (Pg.putL pl e) e.key _ HNq.out HEq.out (by omega)).mono ?_
          have hrm : Pg.remove ⟨true, plo, phi, pr, Pg.putL pl e⟩ e.key = (⟨true, plo, phi, pr, Pg.del (Pg.putL pl e) ((Pg.putL pl e).findIdx (Pg.is e.key))⟩, 0) := by unfold Pg.remove; rw [Pg.any_put]; rfl
          rw [hrm]
          clear hrm
          rintro x w11 ⟨v, rfl, hga, hb⟩
          have HXp : Hid (Bk w11 (w.heap.size) 24 #[.bool true, .string plo, .string phi, .int .i64 pr, .slice pp pn pc]) := HXp.out.below hb HXp.out.lt
          have HXe : Hid (Bk w11 (w.heap.size + 1) 28 #[.string e.key, .int .i64 e.s, .int .i64 e.g, .int .i64 e.c]) := HXe.out.below hb HXe.out.lt
          have HXwas : Hid (Bk w11 (w3.heap.size) 28 #[.string xk, .int .i64 xs, .int .i64 xg, .int .i64 xc]) := HXwas.out.below hb HXwas.out.lt
          have HXq : Hid (Bk w11 (w5.heap.size) 24 #[.bool true, .string plo, .string phi, .int .i64 pr, .slice qp qn qc]) := HXq.out.below hb HXq.out.lt
          have HXy : Hid (Bk w11 (w7.heap.size) 28 #[.string e.key, .int .i64 e.s, .int .i64 e.g, .int .i64 e.c]) := HXy.out.below hb HXy.out.lt
          have HXz : Hid (Bk w11 (w9.heap.size) 28 #[.string e.key, .int .i64 e.s, .int .i64 e.g, .int .i64 e.c]) := HXz.out.below hb HXz.out.lt
          have HEp : Hid (Ens w11 pp (pl)) := HEp.out.below hb (Nat.le_refl _)
          have HEq : Hid (Ens w11 qp (Pg.putL pl e)) := HEq.out.below hb (Nat.le_refl _)
          have HBW : Hid (Below w.heap.size w w11) := HBW.out.trans (hb.mono HBW.out.size)
          obtain ⟨gf, glo, ghi, gr, gp, gn, gc, gl, hg, rfl, hgn, hge, -⟩ := hga.parts
          simp only [Pp.mk.injEq] at hg
          obtain ⟨rfl, rfl, rfl, rfl, rfl⟩ := hg
          obtain ⟨dl, hdl⟩ : ∃ dl, Pg.del (Pg.putL pl e) ((Pg.putL pl e).findIdx (Pg.is e.key)) = dl := ⟨_, rfl⟩
          have HG1 : Hid (Pg.find true dl e.key = none) := by rw [Hid, ← hdl]; exact Pg.gone pl e HRS.out
          have hgb : gn ≤ 3518437208781 := by rw [← hgn]; unfold Pg.del; rw [List.length_append, List.length_take, List.length_drop]; have h1 := HNq.out; omega
          rw [hdl] at hgn hge
          have HNg : Hid (dl.length = gn) := hgn
          have HEg : Hid (Ens w11 gp (dl)) := hge
          clear hb hga hgn hge hdl
          obtain ⟨w12, hw12⟩ : ∃ w12, w11.alloc (.cells #[.bool true, .string plo, .string phi, .int .i64 pr, .slice gp gn gc] 24) = w12 := ⟨_, rfl⟩
          have hb : Below w11.heap.size w11 w12 := by rw [← hw12]; exact (Below.refl _ _).alloc (Nat.le_refl _) _
          have HXg : Hid (Bk w12 w11.heap.size 24 #[.bool true, .string plo, .string phi, .int .i64 pr, .slice gp gn gc]) := by rw [← hw12]; exact Bk.new _ _ _
          have HXp : Hid (Bk w12 (w.heap.size) 24 #[.bool true, .string plo, .string phi, .int .i64 pr, .slice pp pn pc]) := HXp.out.below hb HXp.out.lt
          have HXe : Hid (Bk w12 (w.heap.size + 1) 28 #[.string e.key, .int .i64 e.s, .int .i64 e.g, .int .i64 e.c]) := HXe.out.below hb HXe.out.lt
          have HXwas : Hid (Bk w12 (w3.heap.size) 28 #[.string xk, .int .i64 xs, .int .i64 xg, .int .i64 xc]) := HXwas.out.below hb HXwas.out.lt
          have HXq : Hid (Bk w12 (w5.heap.size) 24 #[.bool true, .string plo, .string phi, .int .i64 pr, .slice qp qn qc]) := HXq.out.below hb HXq.out.lt
          have HXy : Hid (Bk w12 (w7.heap.size) 28 #[.string e.key, .int .i64 e.s, .int .i64 e.g, .int .i64 e.c]) := HXy.out.below hb HXy.out.lt
          have HXz : Hid (Bk w12 (w9.heap.size) 28 #[.string e.key, .int .i64 e.s, .int .i64 e.g, .int .i64 e.c]) := HXz.out.below hb HXz.out.lt
          have HEp : Hid (Ens w12 pp (pl)) := HEp.out.below hb (Nat.le_refl _)
          have HEq : Hid (Ens w12 qp (Pg.putL pl e)) := HEq.out.below hb (Nat.le_refl _)
          have HEg : Hid (Ens w12 gp (dl)) := HEg.out.below hb (Nat.le_refl _)
          have HBW : Hid (Below w.heap.size w w12) := HBW.out.trans (hb.mono HBW.out.size)
          clear hb
          have g_0 : w12.cell? ⟨w11.heap.size, 0, none⟩ = some (.bool true) := HXg.out.cell 0
          have g_1 : w12.cell? ⟨w11.heap.size, 1, none⟩ = some (.string plo) := HXg.out.cell 1
          have g_2 : w12.cell? ⟨w11.heap.size, 2, none⟩ = some (.string phi) := HXg.out.cell 2
          have g_3 : w12.cell? ⟨w11.heap.size, 3, none⟩ = some (.int .i64 pr) := HXg.out.cell 3
          have g_4 : w12.cell? ⟨w11.heap.size, 4, none⟩ = some (.slice gp gn gc) := HXg.out.cell 4
          have e_0 : w12.cell? ⟨w.heap.size + 1, 0, none⟩ = some (.string e.key) := HXe.out.cell 0
          have e_1 : w12.cell? ⟨w.heap.size + 1, 1, none⟩ = some (.int .i64 e.s) := HXe.out.cell 1
          have e_2 : w12.cell? ⟨w.heap.size + 1, 2, none⟩ = some (.int .i64 e.g) := HXe.out.cell 2
          have e_3 : w12.cell? ⟨w.heap.size + 1, 3, none⟩ = some (.int .i64 e.c) := HXe.out.cell 3
          go_wp2_with fail
          clear hw12 g_0 g_1 g_2 g_3 g_4 e_0 e_1 e_2 e_3
          refine (find_ord true plo phi pr gp gn gc dl e.key _ HNg.out HEg.out (by omega) (fun h => by cases h)).mono ?_
          rw [HG1.out]
          rintro x w13 ⟨rfl, hb⟩
          have HXp : Hid (Bk w13 (w.heap.size) 24 #[.bool true, .string plo, .string phi, .int .i64 pr, .slice pp pn pc]) := HXp.out.below hb HXp.out.lt
          have HXe : Hid (Bk w13 (w.heap.size + 1) 28 #[.string e.key, .int .i64 e.s, .int .i64 e.g, .int .i64 e.c]) := HXe.out.below hb HXe.out.lt
          have HXwas : Hid (Bk w13 (w3.heap.size) 28 #[.string xk, .int .i64 xs, .int .i64 xg, .int .i64 xc]) := HXwas.out.below hb HXwas.out.lt
          have HXq : Hid (Bk w13 (w5.heap.size) 24 #[.bool true, .string plo, .string phi, .int .i64 pr, .slice qp qn qc]) := HXq.out.below hb HXq.out.lt
          have HXy : Hid (Bk w13 (w7.heap.size) 28 #[.string e.key, .int .i64 e.s, .int .i64 e.g, .int .i64 e.c]) := HXy.out.below hb HXy.out.lt
          have HXz : Hid (Bk w13 (w9.heap.size) 28 #[.string e.key, .int .i64 e.s, .int .i64 e.g, .int .i64 e.c]) := HXz.out.below hb HXz.out.lt
          have HXg : Hid (Bk w13 (w11.heap.size) 24 #[.bool true, .string plo, .string phi, .int .i64 pr, .slice gp gn gc]) := HXg.out.below hb HXg.out.lt
          have HEp : Hid (Ens w13 pp (pl)) := HEp.out.below hb (Nat.le_refl _)
          have HEq : Hid (Ens w13 qp (Pg.putL pl e)) := HEq.out.below hb (Nat.le_refl _)
          have HEg : Hid (Ens w13 gp (dl)) := HEg.out.below hb (Nat.le_refl _)
          have HBW : Hid (Below w.heap.size w w13) := HBW.out.trans (hb.mono HBW.out.size)
          clear hb
          obtain ⟨w14, hw14⟩ : ∃ w14, w14 = w13.alloc (.cells #[.string ⟨#[]⟩, .int .i64 0, .int .i64 0, .int .i64 0] 28) := ⟨_, rfl⟩
          have hb : Below w13.heap.size w13 w14 := by rw [hw14]; exact (Below.refl _ _).alloc (Nat.le_refl _) _
          have HXn : Hid (Bk w14 w13.heap.size 28 #[.string ⟨#[]⟩, .int .i64 0, .int .i64 0, .int .i64 0]) := by rw [hw14]; exact Bk.new _ _ _
          have HXp : Hid (Bk w14 (w.heap.size) 24 #[.bool true, .string plo, .string phi, .int .i64 pr, .slice pp pn pc]) := HXp.out.below hb HXp.out.lt
          have HXe : Hid (Bk w14 (w.heap.size + 1) 28 #[.string e.key, .int .i64 e.s, .int .i64 e.g, .int .i64 e.c]) := HXe.out.below hb HXe.out.lt
          have HXwas : Hid (Bk w14 (w3.heap.size) 28 #[.string xk, .int .i64 xs, .int .i64 xg, .int .i64 xc]) := HXwas.out.below hb HXwas.out.lt
          have HXq : Hid (Bk w14 (w5.heap.size) 24 #[.bool true, .string plo, .string phi, .int .i64 pr, .slice qp qn qc]) := HXq.out.below hb HXq.out.lt
          have HXy : Hid (Bk w14 (w7.heap.size) 28 #[.string e.key, .int .i64 e.s, .int .i64 e.g, .int .i64 e.c]) := HXy.out.below hb HXy.out.lt
          have HXz : Hid (Bk w14 (w9.heap.size) 28 #[.string e.key, .int .i64 e.s, .int .i64 e.g, .int .i64 e.c]) := HXz.out.below hb HXz.out.lt
          have HXg : Hid (Bk w14 (w11.heap.size) 24 #[.bool true, .string plo, .string phi, .int .i64 pr, .slice gp gn gc]) := HXg.out.below hb HXg.out.lt
          have HEp : Hid (Ens w14 pp (pl)) := HEp.out.below hb (Nat.le_refl _)
          have HEq : Hid (Ens w14 qp (Pg.putL pl e)) := HEq.out.below hb (Nat.le_refl _)
          have HEg : Hid (Ens w14 gp (dl)) := HEg.out.below hb (Nat.le_refl _)
          have HBW : Hid (Below w.heap.size w w14) := HBW.out.trans (hb.mono HBW.out.size)
          clear hb
          have g_0 : w14.cell? ⟨w11.heap.size, 0, none⟩ = some (.bool true) := HXg.out.cell 0
          have g_1 : w14.cell? ⟨w11.heap.size, 1, none⟩ = some (.string plo) := HXg.out.cell 1
          have g_2 : w14.cell? ⟨w11.heap.size, 2, none⟩ = some (.string phi) := HXg.out.cell 2
          have g_3 : w14.cell? ⟨w11.heap.size, 3, none⟩ = some (.int .i64 pr) := HXg.out.cell 3
          have g_4 : w14.cell? ⟨w11.heap.size, 4, none⟩ = some (.slice gp gn gc) := HXg.out.cell 4
          have e_0 : w14.cell? ⟨w.heap.size + 1, 0, none⟩ = some (.string e.key) := HXe.out.cell 0
          have e_1 : w14.cell? ⟨w.heap.size + 1, 1, none⟩ = some (.int .i64 e.s) := HXe.out.cell 1
          have e_2 : w14.cell? ⟨w.heap.size + 1, 2, none⟩ = some (.int .i64 e.g) := HXe.out.cell 2
          have e_3 : w14.cell? ⟨w.heap.size + 1, 3, none⟩ = some (.int .i64 e.c) := HXe.out.cell 3
          rw [hw14] at g_0 g_1 g_2 g_3 g_4 e_0 e_1 e_2 e_3
          go_wp2_with fail
          try rw [← hw14]
          clear hw14 g_0 g_1 g_2 g_3 g_4 e_0 e_1 e_2 e_3
          refine (find_ord true plo phi pr gp gn gc dl e.key _ HNg.out HEg.out (by omega) (fun h => by cases h)).mono ?_
          rw [HG1.out]
          rintro x w15 ⟨rfl, hb⟩
          have HXp : Hid (Bk w15 (w.heap.size) 24 #[.bool true, .string plo, .string phi, .int .i64 pr, .slice pp pn pc]) := HXp.out.below hb HXp.out.lt
          have HXe : Hid (Bk w15 (w.heap.size + 1) 28 #[.string e.key, .int .i64 e.s, .int .i64 e.g, .int .i64 e.c]) := HXe.out.below hb HXe.out.lt
          have HXwas : Hid (Bk w15 (w3.heap.size) 28 #[.string xk, .int .i64 xs, .int .i64 xg, .int .i64 xc]) := HXwas.out.below hb HXwas.out.lt
          have HXq : Hid (Bk w15 (w5.heap.size) 24 #[.bool true, .string plo, .string phi, .int .i64 pr, .slice qp qn qc]) := HXq.out.below hb HXq.out.lt
          have HXy : Hid (Bk w15 (w7.heap.size) 28 #[.string e.key, .int .i64 e.s, .int .i64 e.g, .int .i64 e.c]) := HXy.out.below hb HXy.out.lt
          have HXz : Hid (Bk w15 (w9.heap.size) 28 #[.string e.key, .int .i64 e.s, .int .i64 e.g, .int .i64 e.c]) := HXz.out.below hb HXz.out.lt
          have HXg : Hid (Bk w15 (w11.heap.size) 24 #[.bool true, .string plo, .string phi, .int .i64 pr, .slice gp gn gc]) := HXg.out.below hb HXg.out.lt
          have HXn : Hid (Bk w15 (w13.heap.size) 28 #[.string ⟨#[]⟩, .int .i64 0, .int .i64 0, .int .i64 0]) := HXn.out.below hb HXn.out.lt
          have HEp : Hid (Ens w15 pp (pl)) := HEp.out.below hb (Nat.le_refl _)
          have HEq : Hid (Ens w15 qp (Pg.putL pl e)) := HEq.out.below hb (Nat.le_refl _)
          have HEg : Hid (Ens w15 gp (dl)) := HEg.out.below hb (Nat.le_refl _)
          have HBW : Hid (Below w.heap.size w w15) := HBW.out.trans (hb.mono HBW.out.size)
          clear hb
          obtain ⟨w16, hw16⟩ : ∃ w16, w16 = w15.alloc (.cells #[.string ⟨#[]⟩, .int .i64 0, .int .i64 0, .int .i64 0] 28) := ⟨_, rfl⟩
          have hb : Below w15.heap.size w15 w16 := by rw [hw16]; exact (Below.refl _ _).alloc (Nat.le_refl _) _
          have HXu : Hid (Bk w16 w15.heap.size 28 #[.string ⟨#[]⟩, .int .i64 0, .int .i64 0, .int .i64 0]) := by rw [hw16]; exact Bk.new _ _ _
          have HXp : Hid (Bk w16 (w.heap.size) 24 #[.bool true, .string plo, .string phi, .int .i64 pr, .slice pp pn pc]) := HXp.out.below hb HXp.out.lt
          have HXe : Hid (Bk w16 (w.heap.size + 1) 28 #[.string e.key, .int .i64 e.s, .int .i64 e.g, .int .i64 e.c]) := HXe.out.below hb HXe.out.lt
          have HXwas : Hid (Bk w16 (w3.heap.size) 28 #[.string xk, .int .i64 xs, .int .i64 xg, .int .i64 xc]) := HXwas.out.below hb HXwas.out.lt
          have HXq : Hid (Bk w16 (w5.heap.size) 24 #[.bool true, .string plo, .string phi, .int .i64 pr, .slice qp qn qc]) := HXq.out.below hb HXq.out.lt
          have HXy : Hid (Bk w16 (w7.heap.size) 28 #[.string e.key, .int .i64 e.s, .int .i64 e.g, .int .i64 e.c]) := HXy.out.below hb HXy.out.lt
          have HXz : Hid (Bk w16 (w9.heap.size) 28 #[.string e.key, .int .i64 e.s, .int .i64 e.g, .int .i64 e.c]) := HXz.out.below hb HXz.out.lt
          have HXg : Hid (Bk w16 (w11.heap.size) 24 #[.bool true, .string plo, .string phi, .int .i64 pr, .slice gp gn gc]) := HXg.out.below hb HXg.out.lt
          have HXn : Hid (Bk w16 (w13.heap.size) 28 #[.string ⟨#[]⟩, .int .i64 0, .int .i64 0, .int .i64 0]) := HXn.out.below hb HXn.out.lt
          have HEp : Hid (Ens w16 pp (pl)) := HEp.out.below hb (Nat.le_refl _)
          have HEq : Hid (Ens w16 qp (Pg.putL pl e)) := HEq.out.below hb (Nat.le_refl _)
          have HEg : Hid (Ens w16 gp (dl)) := HEg.out.below hb (Nat.le_refl _)
          have HBW : Hid (Below w.heap.size w w16) := HBW.out.trans (hb.mono HBW.out.size)
          clear hb
          have u_0 : w16.cell? ⟨w15.heap.size, 0, none⟩ = some (.string ⟨#[]⟩) := HXu.out.cell 0
          have u_1 : w16.cell? ⟨w15.heap.size, 1, none⟩ = some (.int .i64 0) := HXu.out.cell 1
          have u_2 : w16.cell? ⟨w15.heap.size, 2, none⟩ = some (.int .i64 0) := HXu.out.cell 2
          have u_3 : w16.cell? ⟨w15.heap.size, 3, none⟩ = some (.int .i64 0) := HXu.out.cell 3
          have e_0 : w16.cell? ⟨w.heap.size + 1, 0, none⟩ = some (.string e.key) := HXe.out.cell 0
          have e_1 : w16.cell? ⟨w.heap.size + 1, 1, none⟩ = some (.int .i64 e.s) := HXe.out.cell 1
          have e_2 : w16.cell? ⟨w.heap.size + 1, 2, none⟩ = some (.int .i64 e.g) := HXe.out.cell 2
          have e_3 : w16.cell? ⟨w.heap.size + 1, 3, none⟩ = some (.int .i64 e.c) := HXe.out.cell 3
          have was_0 : w16.cell? ⟨w3.heap.size, 0, none⟩ = some (.string xk) := HXwas.out.cell 0
          have was_1 : w16.cell? ⟨w3.heap.size, 1, none⟩ = some (.int .i64 xs) := HXwas.out.cell 1
          have was_2 : w16.cell? ⟨w3.heap.size, 2, none⟩ = some (.int .i64 xg) := HXwas.out.cell 2
          have was_3 : w16.cell? ⟨w3.heap.size, 3, none⟩ = some (.int .i64 xc) := HXwas.out.cell 3
          rw [hw16] at u_0 u_1 u_2 u_3 e_0 e_1 e_2 e_3 was_0 was_1 was_2 was_3
          go_wp2
          try rw [← hw16]
          go_ret
          exact ⟨rfl, HBW.out⟩
        · have hoe2 := hoe
          obtain ⟨w0, hw0⟩ : ∃ w0, (w.alloc (.cells #[.bool true, .string plo, .string phi, .int .i64 pr, .slice pp pn pc] 24)).alloc (.cells #[.string e.key, .int .i64 e.s, .int .i64 e.g, .int .i64 e.c] 28) = w0 := ⟨_, rfl⟩
          have HBW : Hid (Below w.heap.size w w0) := by rw [← hw0]; exact ((Below.refl _ _).alloc (Nat.le_refl _) _).alloc (by simp) _
          have HXp : Hid (Bk w0 w.heap.size 24 #[.bool true, .string plo, .string phi, .int .i64 pr, .slice pp pn pc]) := by rw [← hw0]; exact (Bk.new _ _ _).alloc _
          have HXe : Hid (Bk w0 (w.heap.size + 1) 28 #[.string e.key, .int .i64 e.s, .int .i64 e.g, .int .i64 e.c]) := by rw [← hw0]; exact Bk.new1 _ _ _ _
          have HEp : Hid (Ens w0 pp (pl)) := HP.out.ens.below HBW.out (Nat.le_refl _)
          have p_0 : w0.cell? ⟨w.heap.size, 0, none⟩ = some (.bool true) := HXp.out.cell 0
          have p_1 : w0.cell? ⟨w.heap.size, 1, none⟩ = some (.string plo) := HXp.out.cell 1
          have p_2 : w0.cell? ⟨w.heap.size, 2, none⟩ = some (.string phi) := HXp.out.cell 2
          have p_3 : w0.cell? ⟨w.heap.size, 3, none⟩ = some (.int .i64 pr) := HXp.out.cell 3
          have p_4 : w0.cell? ⟨w.heap.size, 4, none⟩ = some (.slice pp pn pc) := HXp.out.cell 4
          go_enter Try.func7, Try.ntmps7
          go_wp2_with fail
          clear p_0 p_1 p_2 p_3 p_4 hw0
          refine (rcheck_any true plo phi pr pp pn pc pl _ HP.out.lenq HEp.out (by omega)).mono ?_
          rw [hmay]
          simp only [if_true]
          rintro x w1 ⟨rfl, hb⟩
          have HXp : Hid (Bk w1 (w.heap.size) 24 #[.bool true, .string plo, .string phi, .int .i64 pr, .slice pp pn pc]) := HXp.out.below hb HXp.out.lt
          have HXe : Hid (Bk w1 (w.heap.size + 1) 28 #[.string e.key, .int .i64 e.s, .int .i64 e.g, .int .i64 e.c]) := HXe.out.below hb HXe.out.lt
          have HEp : Hid (Ens w1 pp (pl)) := HEp.out.below hb (Nat.le_refl _)
          have HBW : Hid (Below w.heap.size w w1) := HBW.out.trans (hb.mono HBW.out.size)
          clear hb
          have p_0 : w1.cell? ⟨w.heap.size, 0, none⟩ = some (.bool true) := HXp.out.cell 0
          have p_1 : w1.cell? ⟨w.heap.size, 1, none⟩ = some (.string plo) := HXp.out.cell 1
          have p_2 : w1.cell? ⟨w.heap.size, 2, none⟩ = some (.string phi) := HXp.out.cell 2
          have p_3 : w1.cell? ⟨w.heap.size, 3, none⟩ = some (.int .i64 pr) := HXp.out.cell 3
          have p_4 : w1.cell? ⟨w.heap.size, 4, none⟩ = some (.slice pp pn pc) := HXp.out.cell 4
          go_wp2_with fail
          clear p_0 p_1 p_2 p_3 p_4
          refine (live_any _).mono ?_
          rintro x w2 ⟨rfl, hb⟩
          have HXp : Hid (Bk w2 (w.heap.size) 24 #[.bool true, .string plo, .string phi, .int .i64 pr, .slice pp pn pc]) := HXp.out.below hb HXp.out.lt
          have HXe : Hid (Bk w2 (w.heap.size + 1) 28 #[.string e.key, .int .i64 e.s, .int .i64 e.g, .int .i64 e.c]) := HXe.out.below hb HXe.out.lt
          have HEp : Hid (Ens w2 pp (pl)) := HEp.out.below hb (Nat.le_refl _)
          have HBW : Hid (Below w.heap.size w w2) := HBW.out.trans (hb.mono HBW.out.size)
          clear hb
          have p_0 : w2.cell? ⟨w.heap.size, 0, none⟩ = some (.bool true) := HXp.out.cell 0
          have p_1 : w2.cell? ⟨w.heap.size, 1, none⟩ = some (.string plo) := HXp.out.cell 1
          have p_2 : w2.cell? ⟨w.heap.size, 2, none⟩ = some (.string phi) := HXp.out.cell 2
          have p_3 : w2.cell? ⟨w.heap.size, 3, none⟩ = some (.int .i64 pr) := HXp.out.cell 3
          have p_4 : w2.cell? ⟨w.heap.size, 4, none⟩ = some (.slice pp pn pc) := HXp.out.cell 4
          go_wp2_with fail
          clear p_0 p_1 p_2 p_3 p_4
          refine (find_ord true plo phi pr pp pn pc pl other _ HP.out.lenq HEp.out (by omega) (fun h => by cases h)).mono ?_
          obtain ⟨xk, xs, xg, xc, t, hfv⟩ := fv_parts (Pg.find true pl other)
          have HFV : Hid (fv (Pg.find true pl other) = .tuple #[.agg #[.string xk, .int .i64 xs, .int .i64 xg, .int .i64 xc], .bool t]) := hfv
          rw [hfv]
          clear hfv
          rintro x w3 ⟨rfl, hb⟩
          have HXp : Hid (Bk w3 (w.heap.size) 24 #[.bool true, .string plo, .string phi, .int .i64 pr, .slice pp pn pc]) := HXp.out.below hb HXp.out.lt
          have HXe : Hid (Bk w3 (w.heap.size + 1) 28 #[.string e.key, .int .i64 e.s, .int .i64 e.g, .int .i64 e.c]) := HXe.out.below hb HXe.out.lt
          have HEp : Hid (Ens w3 pp (pl)) := HEp.out.below hb (Nat.le_refl _)
          have HBW : Hid (Below w.heap.size w w3) := HBW.out.trans (hb.mono HBW.out.size)
          clear hb
          obtain ⟨w4, hw4⟩ : ∃ w4, w3.alloc (.cells #[.string xk, .int .i64 xs, .int .i64 xg, .int .i64 xc] 28) = w4 := ⟨_, rfl⟩
          have hb : Below w3.heap.size w3 w4 := by rw [← hw4]; exact (Below.refl _ _).alloc (Nat.le_refl _) _
          have HXwas : Hid (Bk w4 w3.heap.size 28 #[.string xk, .int .i64 xs, .int .i64 xg, .int .i64 xc]) := by rw [← hw4]; exact Bk.new _ _ _
          have HXp : Hid (Bk w4 (w.heap.size) 24 #[.bool true, .string plo, .string phi, .int .i64 pr, .slice pp pn pc]) := HXp.out.below hb HXp.out.lt
          have HXe : Hid (Bk w4 (w.heap.size + 1) 28 #[.string e.key, .int .i64 e.s, .int .i64 e.g, .int .i64 e.c]) := HXe.out.below hb HXe.out.lt
          have HEp : Hid (Ens w4 pp (pl)) := HEp.out.below hb (Nat.le_refl _)
          have HBW : Hid (Below w.heap.size w w4) := HBW.out.trans (hb.mono HBW.out.size)
          clear hb
          have p_0 : w4.cell? ⟨w.heap.size, 0, none⟩ = some (.bool true) := HXp.out.cell 0
          have p_1 : w4.cell? ⟨w.heap.size, 1, none⟩ = some (.string plo) := HXp.out.cell 1
          have p_2 : w4.cell? ⟨w.heap.size, 2, none⟩ = some (.string phi) := HXp.out.cell 2
          have p_3 : w4.cell? ⟨w.heap.size, 3, none⟩ = some (.int .i64 pr) := HXp.out.cell 3
          have p_4 : w4.cell? ⟨w.heap.size, 4, none⟩ = some (.slice pp pn pc) := HXp.out.cell 4
          have e_0 : w4.cell? ⟨w.heap.size + 1, 0, none⟩ = some (.string e.key) := HXe.out.cell 0
          have e_1 : w4.cell? ⟨w.heap.size + 1, 1, none⟩ = some (.int .i64 e.s) := HXe.out.cell 1
          have e_2 : w4.cell? ⟨w.heap.size + 1, 2, none⟩ = some (.int .i64 e.g) := HXe.out.cell 2
          have e_3 : w4.cell? ⟨w.heap.size + 1, 3, none⟩ = some (.int .i64 e.c) := HXe.out.cell 3
          go_wp2_with fail
          clear hw4 p_0 p_1 p_2 p_3 p_4 e_0 e_1 e_2 e_3
          refine (put_any true plo phi pr pp pn pc pl e _ HP.out.lenq HEp.out (by omega) HP.out.nil).mono ?_
          rw [HPT.out]
          rintro x w5 ⟨v, rfl, hga, hb⟩
          have HXp : Hid (Bk w5 (w.heap.size) 24 #[.bool true, .string plo, .string phi, .int .i64 pr, .slice pp pn pc]) := HXp.out.below hb HXp.out.lt
          have HXe : Hid (Bk w5 (w.heap.size + 1) 28 #[.string e.key, .int .i64 e.s, .int .i64 e.g, .int .i64 e.c]) := HXe.out.below hb HXe.out.lt
          have HXwas : Hid (Bk w5 (w3.heap.size) 28 #[.string xk, .int .i64 xs, .int .i64 xg, .int .i64 xc]) := HXwas.out.below hb HXwas.out.lt
          have HEp : Hid (Ens w5 pp (pl)) := HEp.out.below hb (Nat.le_refl _)
          have HBW : Hid (Below w.heap.size w w5) := HBW.out.trans (hb.mono HBW.out.size)
          obtain ⟨qf, qlo, qhi, qr, qp, qn, qc, ql, hq, rfl, hqn, hqe, -⟩ := hga.parts
          simp only [Pp.mk.injEq] at hq
          obtain ⟨rfl, rfl, rfl, rfl, rfl⟩ := hq
          have HNq : Hid ((Pg.putL pl e).length = qn) := hqn
          have hqb : qn ≤ 3518437208781 := by have h1 := Pg.putL_len pl e; have h2 := HP.out.lenq; omega
          have HEq : Hid (Ens w5 qp (Pg.putL pl e)) := hqe
          clear hb hga hqn hqe
          obtain ⟨w6, hw6⟩ : ∃ w6, w5.alloc (.cells #[.bool true, .string plo, .string phi, .int .i64 pr, .slice qp qn qc] 24) = w6 := ⟨_, rfl⟩
          have hb : Below w5.heap.size w5 w6 := by rw [← hw6]; exact (Below.refl _ _).alloc (Nat.le_refl _) _
          have HXq : Hid (Bk w6 w5.heap.size 24 #[.bool true, .string plo, .string phi, .int .i64 pr, .slice qp qn qc]) := by rw [← hw6]; exact Bk.new _ _ _
          have HXp : Hid (Bk w6 (w.heap.size) 24 #[.bool true, .string plo, .string phi, .int .i64 pr, .slice pp pn pc]) := HXp.out.below hb HXp.out.lt
          have HXe : Hid (Bk w6 (w.heap.size + 1) 28 #[.string e.key, .int .i64 e.s, .int .i64 e.g, .int .i64 e.c]) := HXe.out.below hb HXe.out.lt
          have HXwas : Hid (Bk w6 (w3.heap.size) 28 #[.string xk, .int .i64 xs, .int .i64 xg, .int .i64 xc]) := HXwas.out.below hb HXwas.out.lt
          have HEp : Hid (Ens w6 pp (pl)) := HEp.out.below hb (Nat.le_refl _)
          have HEq : Hid (Ens w6 qp (Pg.putL pl e)) := HEq.out.below hb (Nat.le_refl _)
          have HBW : Hid (Below w.heap.size w w6) := HBW.out.trans (hb.mono HBW.out.size)
          clear hb
          have q_0 : w6.cell? ⟨w5.heap.size, 0, none⟩ = some (.bool true) := HXq.out.cell 0
          have q_1 : w6.cell? ⟨w5.heap.size, 1, none⟩ = some (.string plo) := HXq.out.cell 1
          have q_2 : w6.cell? ⟨w5.heap.size, 2, none⟩ = some (.string phi) := HXq.out.cell 2
          have q_3 : w6.cell? ⟨w5.heap.size, 3, none⟩ = some (.int .i64 pr) := HXq.out.cell 3
          have q_4 : w6.cell? ⟨w5.heap.size, 4, none⟩ = some (.slice qp qn qc) := HXq.out.cell 4
          have e_0 : w6.cell? ⟨w.heap.size + 1, 0, none⟩ = some (.string e.key) := HXe.out.cell 0
          have e_1 : w6.cell? ⟨w.heap.size + 1, 1, none⟩ = some (.int .i64 e.s) := HXe.out.cell 1
          have e_2 : w6.cell? ⟨w.heap.size + 1, 2, none⟩ = some (.int .i64 e.g) := HXe.out.cell 2
          have e_3 : w6.cell? ⟨w.heap.size + 1, 3, none⟩ = some (.int .i64 e.c) := HXe.out.cell 3
          go_wp2_with fail
          clear hw6 q_0 q_1 q_2 q_3 q_4 e_0 e_1 e_2 e_3
          refine (find_ord true plo phi pr qp qn qc (Pg.putL pl e) e.key _ HNq.out HEq.out (by omega) (fun h => by cases h)).mono ?_
          rw [Pg.keep_put]
          rintro x w7 ⟨rfl, hb⟩
          have HXp : Hid (Bk w7 (w.heap.size) 24 #[.bool true, .string plo, .string phi, .int .i64 pr, .slice pp pn pc]) := HXp.out.below hb HXp.out.lt
          have HXe : Hid (Bk w7 (w.heap.size + 1) 28 #[.string e.key, .int .i64 e.s, .int .i64 e.g, .int .i64 e.c]) := HXe.out.below hb HXe.out.lt
          have HXwas : Hid (Bk w7 (w3.heap.size) 28 #[.string xk, .int .i64 xs, .int .i64 xg, .int .i64 xc]) := HXwas.out.below hb HXwas.out.lt
          have HXq : Hid (Bk w7 (w5.heap.size) 24 #[.bool true, .string plo, .string phi, .int .i64 pr, .slice qp qn qc]) := HXq.out.below hb HXq.out.lt
          have HEp : Hid (Ens w7 pp (pl)) := HEp.out.below hb (Nat.le_refl _)
          have HEq : Hid (Ens w7 qp (Pg.putL pl e)) := HEq.out.below hb (Nat.le_refl _)
          have HBW : Hid (Below w.heap.size w w7) := HBW.out.trans (hb.mono HBW.out.size)
          clear hb
          obtain ⟨w8, hw8⟩ : ∃ w8, w7.alloc (.cells #[.string e.key, .int .i64 e.s, .int .i64 e.g, .int .i64 e.c] 28) = w8 := ⟨_, rfl⟩
          have hb : Below w7.heap.size w7 w8 := by rw [← hw8]; exact (Below.refl _ _).alloc (Nat.le_refl _) _
          have HXy : Hid (Bk w8 w7.heap.size 28 #[.string e.key, .int .i64 e.s, .int .i64 e.g, .int .i64 e.c]) := by rw [← hw8]; exact Bk.new _ _ _
          have HXp : Hid (Bk w8 (w.heap.size) 24 #[.bool true, .string plo, .string phi, .int .i64 pr, .slice pp pn pc]) := HXp.out.below hb HXp.out.lt
          have HXe : Hid (Bk w8 (w.heap.size + 1) 28 #[.string e.key, .int .i64 e.s, .int .i64 e.g, .int .i64 e.c]) := HXe.out.below hb HXe.out.lt
          have HXwas : Hid (Bk w8 (w3.heap.size) 28 #[.string xk, .int .i64 xs, .int .i64 xg, .int .i64 xc]) := HXwas.out.below hb HXwas.out.lt
          have HXq : Hid (Bk w8 (w5.heap.size) 24 #[.bool true, .string plo, .string phi, .int .i64 pr, .slice qp qn qc]) := HXq.out.below hb HXq.out.lt
          have HEp : Hid (Ens w8 pp (pl)) := HEp.out.below hb (Nat.le_refl _)
          have HEq : Hid (Ens w8 qp (Pg.putL pl e)) := HEq.out.below hb (Nat.le_refl _)
          have HBW : Hid (Below w.heap.size w w8) := HBW.out.trans (hb.mono HBW.out.size)
          clear hb
          have q_0 : w8.cell? ⟨w5.heap.size, 0, none⟩ = some (.bool true) := HXq.out.cell 0
          have q_1 : w8.cell? ⟨w5.heap.size, 1, none⟩ = some (.string plo) := HXq.out.cell 1
          have q_2 : w8.cell? ⟨w5.heap.size, 2, none⟩ = some (.string phi) := HXq.out.cell 2
          have q_3 : w8.cell? ⟨w5.heap.size, 3, none⟩ = some (.int .i64 pr) := HXq.out.cell 3
          have q_4 : w8.cell? ⟨w5.heap.size, 4, none⟩ = some (.slice qp qn qc) := HXq.out.cell 4
          have e_0 : w8.cell? ⟨w.heap.size + 1, 0, none⟩ = some (.string e.key) := HXe.out.cell 0
          have e_1 : w8.cell? ⟨w.heap.size + 1, 1, none⟩ = some (.int .i64 e.s) := HXe.out.cell 1
          have e_2 : w8.cell? ⟨w.heap.size + 1, 2, none⟩ = some (.int .i64 e.g) := HXe.out.cell 2
          have e_3 : w8.cell? ⟨w.heap.size + 1, 3, none⟩ = some (.int .i64 e.c) := HXe.out.cell 3
          have y_0 : w8.cell? ⟨w7.heap.size, 0, none⟩ = some (.string e.key) := HXy.out.cell 0
          have y_1 : w8.cell? ⟨w7.heap.size, 1, none⟩ = some (.int .i64 e.s) := HXy.out.cell 1
          have y_2 : w8.cell? ⟨w7.heap.size, 2, none⟩ = some (.int .i64 e.g) := HXy.out.cell 2
          have y_3 : w8.cell? ⟨w7.heap.size, 3, none⟩ = some (.int .i64 e.c) := HXy.out.cell 3
          go_wp2_with fail
          clear hw8 q_0 q_1 q_2 q_3 q_4 e_0 e_1 e_2 e_3 y_0 y_1 y_2 y_3
          refine (find_ord true plo phi pr qp qn qc (Pg.putL pl e) other _ HNq.out HEq.out (by omega) (fun h => by cases h)).mono ?_
          rw [Pg.keep_other pl e hoe, HFV.out]
          rintro x w9 ⟨rfl, hb⟩
          have HXp : Hid (Bk w9 (w.heap.size) 24 #[.bool true, .string plo, .string phi, .int .i64 pr, .slice pp pn pc]) := HXp.out.below hb HXp.out.lt
          have HXe : Hid (Bk w9 (w.heap.size + 1) 28 #[.string e.key, .int .i64 e.s, .int .i64 e.g, .int .i64 e.c]) := HXe.out.below hb HXe.out.lt
          have HXwas : Hid (Bk w9 (w3.heap.size) 28 #[.string xk, .int .i64 xs, .int .i64 xg, .int .i64 xc]) := HXwas.out.below hb HXwas.out.lt
          have HXq : Hid (Bk w9 (w5.heap.size) 24 #[.bool true, .string plo, .string phi, .int .i64 pr, .slice qp qn qc]) := HXq.out.below hb HXq.out.lt
          have HXy : Hid (Bk w9 (w7.heap.size) 28 #[.string e.key, .int .i64 e.s, .int .i64 e.g, .int .i64 e.c]) := HXy.out.below hb HXy.out.lt
          have HEp : Hid (Ens w9 pp (pl)) := HEp.out.below hb (Nat.le_refl _)
          have HEq : Hid (Ens w9 qp (Pg.putL pl e)) := HEq.out.below hb (Nat.le_refl _)
          have HBW : Hid (Below w.heap.size w w9) := HBW.out.trans (hb.mono HBW.out.size)
          clear hb
          obtain ⟨w10, hw10⟩ : ∃ w10, w9.alloc (.cells #[.string xk, .int .i64 xs, .int .i64 xg, .int .i64 xc] 28) = w10 := ⟨_, rfl⟩
          have hb : Below w9.heap.size w9 w10 := by rw [← hw10]; exact (Below.refl _ _).alloc (Nat.le_refl _) _
          have HXz : Hid (Bk w10 w9.heap.size 28 #[.string xk, .int .i64 xs, .int .i64 xg, .int .i64 xc]) := by rw [← hw10]; exact Bk.new _ _ _
          have HXp : Hid (Bk w10 (w.heap.size) 24 #[.bool true, .string plo, .string phi, .int .i64 pr, .slice pp pn pc]) := HXp.out.below hb HXp.out.lt
          have HXe : Hid (Bk w10 (w.heap.size + 1) 28 #[.string e.key, .int .i64 e.s, .int .i64 e.g, .int .i64 e.c]) := HXe.out.below hb HXe.out.lt
          have HXwas : Hid (Bk w10 (w3.heap.size) 28 #[.string xk, .int .i64 xs, .int .i64 xg, .int .i64 xc]) := HXwas.out.below hb HXwas.out.lt
          have HXq : Hid (Bk w10 (w5.heap.size) 24 #[.bool true, .string plo, .string phi, .int .i64 pr, .slice qp qn qc]) := HXq.out.below hb HXq.out.lt
          have HXy : Hid (Bk w10 (w7.heap.size) 28 #[.string e.key, .int .i64 e.s, .int .i64 e.g, .int .i64 e.c]) := HXy.out.below hb HXy.out.lt
          have HEp : Hid (Ens w10 pp (pl)) := HEp.out.below hb (Nat.le_refl _)
          have HEq : Hid (Ens w10 qp (Pg.putL pl e)) := HEq.out.below hb (Nat.le_refl _)
          have HBW : Hid (Below w.heap.size w w10) := HBW.out.trans (hb.mono HBW.out.size)
          clear hb
          have q_0 : w10.cell? ⟨w5.heap.size, 0, none⟩ = some (.bool true) := HXq.out.cell 0
          have q_1 : w10.cell? ⟨w5.heap.size, 1, none⟩ = some (.string plo) := HXq.out.cell 1
          have q_2 : w10.cell? ⟨w5.heap.size, 2, none⟩ = some (.string phi) := HXq.out.cell 2
          have q_3 : w10.cell? ⟨w5.heap.size, 3, none⟩ = some (.int .i64 pr) := HXq.out.cell 3
          have q_4 : w10.cell? ⟨w5.heap.size, 4, none⟩ = some (.slice qp qn qc) := HXq.out.cell 4
          have e_0 : w10.cell? ⟨w.heap.size + 1, 0, none⟩ = some (.string e.key) := HXe.out.cell 0
          have e_1 : w10.cell? ⟨w.heap.size + 1, 1, none⟩ = some (.int .i64 e.s) := HXe.out.cell 1
          have e_2 : w10.cell? ⟨w.heap.size + 1, 2, none⟩ = some (.int .i64 e.g) := HXe.out.cell 2
          have e_3 : w10.cell? ⟨w.heap.size + 1, 3, none⟩ = some (.int .i64 e.c) := HXe.out.cell 3
          have z_0 : w10.cell? ⟨w9.heap.size, 0, none⟩ = some (.string xk) := HXz.out.cell 0
          have z_1 : w10.cell? ⟨w9.heap.size, 1, none⟩ = some (.int .i64 xs) := HXz.out.cell 1
          have z_2 : w10.cell? ⟨w9.heap.size, 2, none⟩ = some (.int .i64 xg) := HXz.out.cell 2
          have z_3 : w10.cell? ⟨w9.heap.size, 3, none⟩ = some (.int .i64 xc) := HXz.out.cell 3
          have was_0 : w10.cell? ⟨w3.heap.size, 0, none⟩ = some (.string xk) := HXwas.out.cell 0
          have was_1 : w10.cell? ⟨w3.heap.size, 1, none⟩ = some (.int .i64 xs) := HXwas.out.cell 1
          have was_2 : w10.cell? ⟨w3.heap.size, 2, none⟩ = some (.int .i64 xg) := HXwas.out.cell 2
          have was_3 : w10.cell? ⟨w3.heap.size, 3, none⟩ = some (.int .i64 xc) := HXwas.out.cell 3
          have hot : (other.toList == e.key.toList) = false := by simp; exact fun h => hoe (Ky.toList_inj h)
          have tt : (t == t) = true := by simp
          go_wp2_with fail
          clear hw10 q_0 q_1 q_2 q_3 q_4 e_0 e_1 e_2 e_3 z_0 z_1 z_2 z_3 was_0 was_1 was_2 was_3
          refine (remove_any true plo phi pr qp qn qc (Pg.putL pl e) e.key _ HNq.out HEq.out (by omega)).mono ?_
          have hrm : Pg.remove ⟨true, plo, phi, pr, Pg.putL pl e⟩ e.key = (⟨true, plo, phi, pr, Pg.del (Pg.putL pl e) ((Pg.putL pl e).findIdx (Pg.is e.key))⟩, 0) := by unfold Pg.remove; rw [Pg.any_put]; rfl
          rw [hrm]
          clear hrm
          rintro x w11 ⟨v, rfl, hga, hb⟩
          have HXp : Hid (Bk w11 (w.heap.size) 24 #[.bool true, .string plo, .string phi, .int .i64 pr, .slice pp pn pc]) := HXp.out.below hb HXp.out.lt
          have HXe : Hid (Bk w11 (w.heap.size + 1) 28 #[.string e.key, .int .i64 e.s, .int .i64 e.g, .int .i64 e.c]) := HXe.out.below hb HXe.out.lt
          have HXwas : Hid (Bk w11 (w3.heap.size) 28 #[.string xk, .int .i64 xs, .int .i64 xg, .int .i64 xc]) := HXwas.out.below hb HXwas.out.lt
          have HXq : Hid (Bk w11 (w5.heap.size) 24 #[.bool true, .string plo, .string phi, .int .i64 pr, .slice qp qn qc]) := HXq.out.below hb HXq.out.lt
          have HXy : Hid (Bk w11 (w7.heap.size) 28 #[.string e.key, .int .i64 e.s, .int .i64 e.g, .int .i64 e.c]) := HXy.out.below hb HXy.out.lt
          have HXz : Hid (Bk w11 (w9.heap.size) 28 #[.string xk, .int .i64 xs, .int .i64 xg, .int .i64 xc]) := HXz.out.below hb HXz.out.lt
          have HEp : Hid (Ens w11 pp (pl)) := HEp.out.below hb (Nat.le_refl _)
          have HEq : Hid (Ens w11 qp (Pg.putL pl e)) := HEq.out.below hb (Nat.le_refl _)
          have HBW : Hid (Below w.heap.size w w11) := HBW.out.trans (hb.mono HBW.out.size)
          obtain ⟨gf, glo, ghi, gr, gp, gn, gc, gl, hg, rfl, hgn, hge, -⟩ := hga.parts
          simp only [Pp.mk.injEq] at hg
          obtain ⟨rfl, rfl, rfl, rfl, rfl⟩ := hg
          obtain ⟨dl, hdl⟩ : ∃ dl, Pg.del (Pg.putL pl e) ((Pg.putL pl e).findIdx (Pg.is e.key)) = dl := ⟨_, rfl⟩
          have HG1 : Hid (Pg.find true dl e.key = none) := by rw [Hid, ← hdl]; exact Pg.gone pl e HRS.out
          have HG2 : Hid (Pg.find true dl other = Pg.find true pl other) := by rw [Hid, ← hdl]; exact Pg.gone_other pl e hoe
          have hgb : gn ≤ 3518437208781 := by rw [← hgn]; unfold Pg.del; rw [List.length_append, List.length_take, List.length_drop]; have h1 := HNq.out; omega
          rw [hdl] at hgn hge
          have HNg : Hid (dl.length = gn) := hgn
          have HEg : Hid (Ens w11 gp (dl)) := hge
          clear hb hga hgn hge hdl
          obtain ⟨w12, hw12⟩ : ∃ w12, w11.alloc (.cells #[.bool true, .string plo, .string phi, .int .i64 pr, .slice gp gn gc] 24) = w12 := ⟨_, rfl⟩
          have hb : Below w11.heap.size w11 w12 := by rw [← hw12]; exact (Below.refl _ _).alloc (Nat.le_refl _) _
          have HXg : Hid (Bk w12 w11.heap.size 24 #[.bool true, .string plo, .string phi, .int .i64 pr, .slice gp gn gc]) := by rw [← hw12]; exact Bk.new _ _ _
          have HXp : Hid (Bk w12 (w.heap.size) 24 #[.bool true, .string plo, .string phi, .int .i64 pr, .slice pp pn pc]) := HXp.out.below hb HXp.out.lt
          have HXe : Hid (Bk w12 (w.heap.size + 1) 28 #[.string e.key, .int .i64 e.s, .int .i64 e.g, .int .i64 e.c]) := HXe.out.below hb HXe.out.lt
          have HXwas : Hid (Bk w12 (w3.heap.size) 28 #[.string xk, .int .i64 xs, .int .i64 xg, .int .i64 xc]) := HXwas.out.below hb HXwas.out.lt
          have HXq : Hid (Bk w12 (w5.heap.size) 24 #[.bool true, .string plo, .string phi, .int .i64 pr, .slice qp qn qc]) := HXq.out.below hb HXq.out.lt
          have HXy : Hid (Bk w12 (w7.heap.size) 28 #[.string e.key, .int .i64 e.s, .int .i64 e.g, .int .i64 e.c]) := HXy.out.below hb HXy.out.lt
          have HXz : Hid (Bk w12 (w9.heap.size) 28 #[.string xk, .int .i64 xs, .int .i64 xg, .int .i64 xc]) := HXz.out.below hb HXz.out.lt
          have HEp : Hid (Ens w12 pp (pl)) := HEp.out.below hb (Nat.le_refl _)
          have HEq : Hid (Ens w12 qp (Pg.putL pl e)) := HEq.out.below hb (Nat.le_refl _)
          have HEg : Hid (Ens w12 gp (dl)) := HEg.out.below hb (Nat.le_refl _)
          have HBW : Hid (Below w.heap.size w w12) := HBW.out.trans (hb.mono HBW.out.size)
          clear hb
          have g_0 : w12.cell? ⟨w11.heap.size, 0, none⟩ = some (.bool true) := HXg.out.cell 0
          have g_1 : w12.cell? ⟨w11.heap.size, 1, none⟩ = some (.string plo) := HXg.out.cell 1
          have g_2 : w12.cell? ⟨w11.heap.size, 2, none⟩ = some (.string phi) := HXg.out.cell 2
          have g_3 : w12.cell? ⟨w11.heap.size, 3, none⟩ = some (.int .i64 pr) := HXg.out.cell 3
          have g_4 : w12.cell? ⟨w11.heap.size, 4, none⟩ = some (.slice gp gn gc) := HXg.out.cell 4
          have e_0 : w12.cell? ⟨w.heap.size + 1, 0, none⟩ = some (.string e.key) := HXe.out.cell 0
          have e_1 : w12.cell? ⟨w.heap.size + 1, 1, none⟩ = some (.int .i64 e.s) := HXe.out.cell 1
          have e_2 : w12.cell? ⟨w.heap.size + 1, 2, none⟩ = some (.int .i64 e.g) := HXe.out.cell 2
          have e_3 : w12.cell? ⟨w.heap.size + 1, 3, none⟩ = some (.int .i64 e.c) := HXe.out.cell 3
          go_wp2_with fail
          clear hw12 g_0 g_1 g_2 g_3 g_4 e_0 e_1 e_2 e_3
          refine (find_ord true plo phi pr gp gn gc dl e.key _ HNg.out HEg.out (by omega) (fun h => by cases h)).mono ?_
          rw [HG1.out]
          rintro x w13 ⟨rfl, hb⟩
          have HXp : Hid (Bk w13 (w.heap.size) 24 #[.bool true, .string plo, .string phi, .int .i64 pr, .slice pp pn pc]) := HXp.out.below hb HXp.out.lt
          have HXe : Hid (Bk w13 (w.heap.size + 1) 28 #[.string e.key, .int .i64 e.s, .int .i64 e.g, .int .i64 e.c]) := HXe.out.below hb HXe.out.lt
          have HXwas : Hid (Bk w13 (w3.heap.size) 28 #[.string xk, .int .i64 xs, .int .i64 xg, .int .i64 xc]) := HXwas.out.below hb HXwas.out.lt
          have HXq : Hid (Bk w13 (w5.heap.size) 24 #[.bool true, .string plo, .string phi, .int .i64 pr, .slice qp qn qc]) := HXq.out.below hb HXq.out.lt
          have HXy : Hid (Bk w13 (w7.heap.size) 28 #[.string e.key, .int .i64 e.s, .int .i64 e.g, .int .i64 e.c]) := HXy.out.below hb HXy.out.lt
          have HXz : Hid (Bk w13 (w9.heap.size) 28 #[.string xk, .int .i64 xs, .int .i64 xg, .int .i64 xc]) := HXz.out.below hb HXz.out.lt
          have HXg : Hid (Bk w13 (w11.heap.size) 24 #[.bool true, .string plo, .string phi, .int .i64 pr, .slice gp gn gc]) := HXg.out.below hb HXg.out.lt
          have HEp : Hid (Ens w13 pp (pl)) := HEp.out.below hb (Nat.le_refl _)
          have HEq : Hid (Ens w13 qp (Pg.putL pl e)) := HEq.out.below hb (Nat.le_refl _)
          have HEg : Hid (Ens w13 gp (dl)) := HEg.out.below hb (Nat.le_refl _)
          have HBW : Hid (Below w.heap.size w w13) := HBW.out.trans (hb.mono HBW.out.size)
          clear hb
          obtain ⟨w14, hw14⟩ : ∃ w14, w14 = w13.alloc (.cells #[.string ⟨#[]⟩, .int .i64 0, .int .i64 0, .int .i64 0] 28) := ⟨_, rfl⟩
          have hb : Below w13.heap.size w13 w14 := by rw [hw14]; exact (Below.refl _ _).alloc (Nat.le_refl _) _
          have HXn : Hid (Bk w14 w13.heap.size 28 #[.string ⟨#[]⟩, .int .i64 0, .int .i64 0, .int .i64 0]) := by rw [hw14]; exact Bk.new _ _ _
          have HXp : Hid (Bk w14 (w.heap.size) 24 #[.bool true, .string plo, .string phi, .int .i64 pr, .slice pp pn pc]) := HXp.out.below hb HXp.out.lt
          have HXe : Hid (Bk w14 (w.heap.size + 1) 28 #[.string e.key, .int .i64 e.s, .int .i64 e.g, .int .i64 e.c]) := HXe.out.below hb HXe.out.lt
          have HXwas : Hid (Bk w14 (w3.heap.size) 28 #[.string xk, .int .i64 xs, .int .i64 xg, .int .i64 xc]) := HXwas.out.below hb HXwas.out.lt
          have HXq : Hid (Bk w14 (w5.heap.size) 24 #[.bool true, .string plo, .string phi, .int .i64 pr, .slice qp qn qc]) := HXq.out.below hb HXq.out.lt
          have HXy : Hid (Bk w14 (w7.heap.size) 28 #[.string e.key, .int .i64 e.s, .int .i64 e.g, .int .i64 e.c]) := HXy.out.below hb HXy.out.lt
          have HXz : Hid (Bk w14 (w9.heap.size) 28 #[.string xk, .int .i64 xs, .int .i64 xg, .int .i64 xc]) := HXz.out.below hb HXz.out.lt
          have HXg : Hid (Bk w14 (w11.heap.size) 24 #[.bool true, .string plo, .string phi, .int .i64 pr, .slice gp gn gc]) := HXg.out.below hb HXg.out.lt
          have HEp : Hid (Ens w14 pp (pl)) := HEp.out.below hb (Nat.le_refl _)
          have HEq : Hid (Ens w14 qp (Pg.putL pl e)) := HEq.out.below hb (Nat.le_refl _)
          have HEg : Hid (Ens w14 gp (dl)) := HEg.out.below hb (Nat.le_refl _)
          have HBW : Hid (Below w.heap.size w w14) := HBW.out.trans (hb.mono HBW.out.size)
          clear hb
          have g_0 : w14.cell? ⟨w11.heap.size, 0, none⟩ = some (.bool true) := HXg.out.cell 0
          have g_1 : w14.cell? ⟨w11.heap.size, 1, none⟩ = some (.string plo) := HXg.out.cell 1
          have g_2 : w14.cell? ⟨w11.heap.size, 2, none⟩ = some (.string phi) := HXg.out.cell 2
          have g_3 : w14.cell? ⟨w11.heap.size, 3, none⟩ = some (.int .i64 pr) := HXg.out.cell 3
          have g_4 : w14.cell? ⟨w11.heap.size, 4, none⟩ = some (.slice gp gn gc) := HXg.out.cell 4
          have e_0 : w14.cell? ⟨w.heap.size + 1, 0, none⟩ = some (.string e.key) := HXe.out.cell 0
          have e_1 : w14.cell? ⟨w.heap.size + 1, 1, none⟩ = some (.int .i64 e.s) := HXe.out.cell 1
          have e_2 : w14.cell? ⟨w.heap.size + 1, 2, none⟩ = some (.int .i64 e.g) := HXe.out.cell 2
          have e_3 : w14.cell? ⟨w.heap.size + 1, 3, none⟩ = some (.int .i64 e.c) := HXe.out.cell 3
          rw [hw14] at g_0 g_1 g_2 g_3 g_4 e_0 e_1 e_2 e_3
          go_wp2_with fail
          try rw [← hw14]
          clear hw14 g_0 g_1 g_2 g_3 g_4 e_0 e_1 e_2 e_3
          refine (find_ord true plo phi pr gp gn gc dl other _ HNg.out HEg.out (by omega) (fun h => by cases h)).mono ?_
          rw [HG2.out, HFV.out]
          rintro x w15 ⟨rfl, hb⟩
          have HXp : Hid (Bk w15 (w.heap.size) 24 #[.bool true, .string plo, .string phi, .int .i64 pr, .slice pp pn pc]) := HXp.out.below hb HXp.out.lt
          have HXe : Hid (Bk w15 (w.heap.size + 1) 28 #[.string e.key, .int .i64 e.s, .int .i64 e.g, .int .i64 e.c]) := HXe.out.below hb HXe.out.lt
          have HXwas : Hid (Bk w15 (w3.heap.size) 28 #[.string xk, .int .i64 xs, .int .i64 xg, .int .i64 xc]) := HXwas.out.below hb HXwas.out.lt
          have HXq : Hid (Bk w15 (w5.heap.size) 24 #[.bool true, .string plo, .string phi, .int .i64 pr, .slice qp qn qc]) := HXq.out.below hb HXq.out.lt
          have HXy : Hid (Bk w15 (w7.heap.size) 28 #[.string e.key, .int .i64 e.s, .int .i64 e.g, .int .i64 e.c]) := HXy.out.below hb HXy.out.lt
          have HXz : Hid (Bk w15 (w9.heap.size) 28 #[.string xk, .int .i64 xs, .int .i64 xg, .int .i64 xc]) := HXz.out.below hb HXz.out.lt
          have HXg : Hid (Bk w15 (w11.heap.size) 24 #[.bool true, .string plo, .string phi, .int .i64 pr, .slice gp gn gc]) := HXg.out.below hb HXg.out.lt
          have HXn : Hid (Bk w15 (w13.heap.size) 28 #[.string ⟨#[]⟩, .int .i64 0, .int .i64 0, .int .i64 0]) := HXn.out.below hb HXn.out.lt
          have HEp : Hid (Ens w15 pp (pl)) := HEp.out.below hb (Nat.le_refl _)
          have HEq : Hid (Ens w15 qp (Pg.putL pl e)) := HEq.out.below hb (Nat.le_refl _)
          have HEg : Hid (Ens w15 gp (dl)) := HEg.out.below hb (Nat.le_refl _)
          have HBW : Hid (Below w.heap.size w w15) := HBW.out.trans (hb.mono HBW.out.size)
          clear hb
          obtain ⟨w16, hw16⟩ : ∃ w16, w15.alloc (.cells #[.string xk, .int .i64 xs, .int .i64 xg, .int .i64 xc] 28) = w16 := ⟨_, rfl⟩
          have hb : Below w15.heap.size w15 w16 := by rw [← hw16]; exact (Below.refl _ _).alloc (Nat.le_refl _) _
          have HXu : Hid (Bk w16 w15.heap.size 28 #[.string xk, .int .i64 xs, .int .i64 xg, .int .i64 xc]) := by rw [← hw16]; exact Bk.new _ _ _
          have HXp : Hid (Bk w16 (w.heap.size) 24 #[.bool true, .string plo, .string phi, .int .i64 pr, .slice pp pn pc]) := HXp.out.below hb HXp.out.lt
          have HXe : Hid (Bk w16 (w.heap.size + 1) 28 #[.string e.key, .int .i64 e.s, .int .i64 e.g, .int .i64 e.c]) := HXe.out.below hb HXe.out.lt
          have HXwas : Hid (Bk w16 (w3.heap.size) 28 #[.string xk, .int .i64 xs, .int .i64 xg, .int .i64 xc]) := HXwas.out.below hb HXwas.out.lt
          have HXq : Hid (Bk w16 (w5.heap.size) 24 #[.bool true, .string plo, .string phi, .int .i64 pr, .slice qp qn qc]) := HXq.out.below hb HXq.out.lt
          have HXy : Hid (Bk w16 (w7.heap.size) 28 #[.string e.key, .int .i64 e.s, .int .i64 e.g, .int .i64 e.c]) := HXy.out.below hb HXy.out.lt
          have HXz : Hid (Bk w16 (w9.heap.size) 28 #[.string xk, .int .i64 xs, .int .i64 xg, .int .i64 xc]) := HXz.out.below hb HXz.out.lt
          have HXg : Hid (Bk w16 (w11.heap.size) 24 #[.bool true, .string plo, .string phi, .int .i64 pr, .slice gp gn gc]) := HXg.out.below hb HXg.out.lt
          have HXn : Hid (Bk w16 (w13.heap.size) 28 #[.string ⟨#[]⟩, .int .i64 0, .int .i64 0, .int .i64 0]) := HXn.out.below hb HXn.out.lt
          have HEp : Hid (Ens w16 pp (pl)) := HEp.out.below hb (Nat.le_refl _)
          have HEq : Hid (Ens w16 qp (Pg.putL pl e)) := HEq.out.below hb (Nat.le_refl _)
          have HEg : Hid (Ens w16 gp (dl)) := HEg.out.below hb (Nat.le_refl _)
          have HBW : Hid (Below w.heap.size w w16) := HBW.out.trans (hb.mono HBW.out.size)
          clear hb
          have u_0 : w16.cell? ⟨w15.heap.size, 0, none⟩ = some (.string xk) := HXu.out.cell 0
          have u_1 : w16.cell? ⟨w15.heap.size, 1, none⟩ = some (.int .i64 xs) := HXu.out.cell 1
          have u_2 : w16.cell? ⟨w15.heap.size, 2, none⟩ = some (.int .i64 xg) := HXu.out.cell 2
          have u_3 : w16.cell? ⟨w15.heap.size, 3, none⟩ = some (.int .i64 xc) := HXu.out.cell 3
          have e_0 : w16.cell? ⟨w.heap.size + 1, 0, none⟩ = some (.string e.key) := HXe.out.cell 0
          have e_1 : w16.cell? ⟨w.heap.size + 1, 1, none⟩ = some (.int .i64 e.s) := HXe.out.cell 1
          have e_2 : w16.cell? ⟨w.heap.size + 1, 2, none⟩ = some (.int .i64 e.g) := HXe.out.cell 2
          have e_3 : w16.cell? ⟨w.heap.size + 1, 3, none⟩ = some (.int .i64 e.c) := HXe.out.cell 3
          have was_0 : w16.cell? ⟨w3.heap.size, 0, none⟩ = some (.string xk) := HXwas.out.cell 0
          have was_1 : w16.cell? ⟨w3.heap.size, 1, none⟩ = some (.int .i64 xs) := HXwas.out.cell 1
          have was_2 : w16.cell? ⟨w3.heap.size, 2, none⟩ = some (.int .i64 xg) := HXwas.out.cell 2
          have was_3 : w16.cell? ⟨w3.heap.size, 3, none⟩ = some (.int .i64 xc) := HXwas.out.cell 3
          go_wp2
          go_ret
          exact ⟨rfl, HBW.out⟩


set_option maxRecDepth 100000 in
set_option maxHeartbeats 2000000 in
theorem lifted_pageKeeps (os : Os) (started : os.Started) (H : Type) (enc : TypeId × Value → H) :
    ReturnsInHanded {} Try.checked os 7 .any (Rows.pageKeepsSpec.pre6 enc Try.prog Try.f7 Rows.pageKeepsRow.domain false) (Rows.pageKeepsSpec.post enc Try.prog Try.f7 false true false false) := by
  refine returnsInHanded_of_change_sized (C := Try.checked) own started (by kernel_rfl) Try.func7
    (ChangeSpec.witness6 (enc := enc) (C := Try.checked) false ⟨#[], #[.agg #[.bool false, .string .empty, .string .empty, .int .i64 0, .slice none 0 0], .agg #[.string .empty, .int .i64 0, .int .i64 0, .int .i64 0], .string .empty], []⟩ 8 (by kernel_rfl) (by kernel_rfl) (by kernel_rfl) (by kernel_rfl)) ?_
  intro W base args ds gs before hval0 hW _ hsz0 _
  have hsz : (DataW.weightsEach Try.prog (Try.f7.params.toList ++ Rows.pageKeepsSpec.plain.varTypes Try.prog) (ds ++ gs)).all (· ≤ reachBytes) = true := hsz0
  clear hsz0
  have hval : ∀ (j : Nat) t v, Try.f7.params[j]? = some t → args[j]? = some v → Value.okWide Try.prog W .any base t v := hval0
  have hW' := hW
  obtain ⟨p, q, hA0, hV, rfl, hfz, hnd⟩ := hW
  have hA : DataW.TrodAll enc Try.prog W 0 (fun _ => true) true Try.f7.params.toList args.toList ds p := hA0
  rw [Try.params7] at hA hval hsz
  obtain ⟨v0, vs0, d0, ds0, p0, q0, hargs, rfl, rfl, h0, r0⟩ := trodAll_cons hA
  obtain ⟨v1, vs1, d1, ds1, p1, q1, rfl, rfl, rfl, h1, r1⟩ := trodAll_cons r0
  obtain ⟨v2, vs2, d2, ds2, p2, q2, rfl, rfl, rfl, h2, r2⟩ := trodAll_cons r1
  obtain ⟨rfl, rfl, rfl⟩ := trodAll_nil r2
  obtain rfl : args = #[v0, v1, v2] := by cases args; simp_all
  obtain ⟨rfl, rfl⟩ := trodVars_none hV
  have k0 := h0
  have lt0 : ∀ x ∈ p0, x.block < W.heap.size := by obtain ⟨m, hm⟩ := k0; exact DataW.trod_lt m _ _ _ hm
  obtain ⟨b0, lo0, hi0, r0', a0, len0, cap0, l0, e0, w0⟩ : ∃ leaf lo hi r a len cap l, v0 = .agg #[.bool leaf, .string lo, .string hi, .int .i64 r, .slice a len cap] ∧ InE 3518437208780 W a len cap l := by
    obtain ⟨cs, hcs, _⟩ := okWide_struct Try.underlying24 (hval 0 24 v0 rfl rfl)
    obtain ⟨fuel, hf⟩ := h0
    obtain ⟨b, lo, hi, r, a, len, cap, l, hg, ho⟩ := in_page (M := 3518437208780) hf (page_said (x := (d0, p0)) (Nat.le_refl _) (fun n hn => by
      have := of_decide_eq_true (List.all_eq_true.1 hsz _ (DataW.weights_mem_each (j := 0) (t := 24) rfl rfl n hn))
      simp only [reachBytes] at this
      omega))
    refine ⟨b, lo, hi, r, a, len, cap, l, ?_, ho⟩
    rw [hcs] at hg ⊢
    congr 1
    apply Array.ext'
    simpa [Value.cells] using hg
  subst e0
  have k1 := h1
  have lt1 : ∀ x ∈ p1, x.block < W.heap.size := by obtain ⟨m, hm⟩ := k1; exact DataW.trod_lt m _ _ _ hm
  obtain ⟨g1, e1⟩ : ∃ g : En, v1 = g.val := by
    obtain ⟨cs, hcs, _⟩ := okWide_struct Try.underlying28 (hval 1 28 v1 rfl rfl)
    obtain ⟨fuel, hf⟩ := h1
    obtain ⟨g, hg, _⟩ := in_en hf
    refine ⟨g, ?_⟩
    rw [hcs] at hg ⊢
    congr 1
    apply Array.ext'
    simpa [Value.cells, En.cells] using hg
  subst e1
  obtain ⟨a2, rfl, rfl, rfl, w2⟩ := open_string Try.underlying9 (hval 2 9 v2 rfl rfl) h2
  have s2 : a2.size ≤ 140737488351232 := by
    have := sized_string hsz (j := 2) (t := 9) rfl rfl
    have e : a2.data.toList.length = a2.size := by rw [Array.length_toList]; rfl
    simp only [reachBytes] at this
    omega
  clear hA0 hval0
  refine (walk_pageKeeps b0 lo0 hi0 r0' a0 len0 cap0 l0 g1 a2 W w0 s2).mono fun e W' ⟨he, bel⟩ => ?_
  subst he
  exact ⟨_, rfl, _, _, _, [], _, [], hW', trodAll_mk1 (shut_bool Try.underlying4 _), (trodAll_cons_mk (Below.trod laidOut (by kernel_rfl) (of_decide_eq_true (by kernel_rfl)) k0 bel lt0) (trodAll_cons_mk (Below.trod laidOut (by kernel_rfl) (of_decide_eq_true (by kernel_rfl)) k1 bel lt1) (trodAll_cons_mk (shut_string Try.underlying9 w2) trodAll_mk0))), rfl, bel.frame _, fun h => by cases h⟩

/-- The statement. -/
theorem pageKeeps_holds : Rows.PageKeepsSaid :=
  OpenClaim.holds_of_wide 7 Try.f7 rfl rfl rfl rfl rfl rfl rfl ⟨rfl, rfl, rfl, rfl, rfl⟩ rfl rfl rfl rfl rfl (by kernel_rfl) Try.func7 (by kernel_rfl)
    (of_decide_eq_true (by kernel_rfl)) (by unfold Func.isWrapper; first | (rw [if_pos (by decide +kernel)]; kernel_rfl) | (rw [if_neg (by decide +kernel)]; exact ⟨rfl, rfl⟩))
    (fun os started H enc _ => lifted_pageKeeps os started H enc)
#print axioms pageKeeps_holds
end Go.Proofs.Ytlcbfpjijceckaa
