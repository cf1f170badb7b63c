/- A packed chain has one node and the page of the chain that it was made of, which stays. For inputs of at most 2^20 bytes. -/
import Derived.Test.YtoehlgigidgfpaaGreatChainPacksD
import Derived.Test.YtoehlgigidgfpaaGreatDlL
import Derived.Test.YtoehlgigidgfpaaGreatPgMg
import Derived.Deep.RegionHeld3
import Derived.Test.YtoehlgigidgfpaaGreatDlS
import Derived.Test.YtoehlgigidgfpaaGreatPgPu
import Derived.Test.YtoehlgigidgfpaaGreatPgRm
import Derived.Test.YtoehlgigidgfpaaGreatPgSq
import Derived.Test.YtoehlgigidgfpaaGreatPgSm
import Derived.Test.YtoehlgigidgfpaaGreatPgMm
import Derived.ArgAppend
import Derived.Test.YtoehlgigidgfpaaGreatChainPacksC
import Derived.Test.YtoehlgigidgfpaaGreatApA
import Derived.Test.YtoehlgigidgfpaaGreatDlC
import Derived.Test.YtoehlgigidgfpaaGreatPgCr
import Derived.Test.YtoehlgigidgfpaaGreatRgM
namespace Go.Proofs.YtoehlgigidgfpaaGreat
open Go.RowKit
set_option linter.unusedVariables false

namespace Dl
open Rs
/-- The key that a put or a remove names. -/
def nk (d : De) : ByteArray := if d.k = 1 then d.e.key else d.key
/-- The entries by a put or a remove. -/
def chg (l : List En) (d : De) : List En := if d.k = 1 then Pg.putL l d.e else Dr.without l d.key

theorem chg_pw {l : List En} (h : Pw l) (d : De) : Pw (chg l d) := by
  unfold chg
  split
  · exact put_pw h _
  · exact wo_pw h _
theorem chg_mem {l : List En} (h : Pw l) (d : De) (x : En) : x ∈ chg l d ↔ (d.k = 1 ∧ x = d.e) ∨ (x ∈ l ∧ x.key ≠ nk d) := by
  unfold chg nk
  by_cases hk : d.k = 1
  · rw [if_pos hk, if_pos hk, put_mem h]
    simp [hk]
  · rw [if_neg hk, if_neg hk, wo_mem h]
    simp [hk]
theorem chg_swap {l : List En} (h : Pw l) {a b : De} (hn : nk a ≠ nk b) : chg (chg l a) b = chg (chg l b) a := by
  refine ext (chg_pw (chg_pw h a) b) (chg_pw (chg_pw h b) a) fun x => ?_
  rw [chg_mem (chg_pw h a), chg_mem h, chg_mem (chg_pw h b), chg_mem h]
  have ha : a.k = 1 → x = a.e → x.key = nk a := fun h1 h2 => by unfold nk; rw [if_pos h1, h2]
  have hb : b.k = 1 → x = b.e → x.key = nk b := fun h1 h2 => by unfold nk; rw [if_pos h1, h2]
  constructor
  · rintro (⟨h1, h2⟩ | ⟨⟨h1, h2⟩ | ⟨h1, h2⟩, h3⟩)
    · exact .inr ⟨.inl ⟨h1, h2⟩, fun e => hn ((e.symm.trans (hb h1 h2)))⟩
    · exact .inl ⟨h1, h2⟩
    · exact .inr ⟨.inr ⟨h1, h3⟩, h2⟩
  · rintro (⟨h1, h2⟩ | ⟨⟨h1, h2⟩ | ⟨h1, h2⟩, h3⟩)
    · exact .inr ⟨.inl ⟨h1, h2⟩, fun e => hn ((ha h1 h2).symm.trans e)⟩
    · exact .inl ⟨h1, h2⟩
    · exact .inr ⟨.inr ⟨h1, h3⟩, h2⟩

theorem apply_chg (g : Pp) {d : De} (hk : d.k = 1 ∨ d.k = 2) : apply g d = if may d = true then (if Ky.inn ⟨g.lo, g.hi⟩ (nk d) = true then (⟨g.leaf, g.lo, g.hi, g.r, chg g.l d⟩, 0) else (Pg.zero, 73)) else (Pg.zero, 90) := by
  by_cases hm : may d = true
  · rw [if_pos hm]
    obtain ⟨k, e, key, pg, rt⟩ := d
    simp only at hk
    rcases hk with rfl | rfl
    · rw [apply_1 hm]; rfl
    · rw [apply_2 hm, without_l]; rfl
  · rw [if_neg hm, apply_not (by simpa using hm)]

theorem fo_two (g : Pp) {a b : De} (ha : a.k = 1 ∨ a.k = 2) (hb : b.k = 1 ∨ b.k = 2) :
    ((fo g [a, b]).2 = 0 ↔ (may a = true ∧ may b = true ∧ Ky.inn ⟨g.lo, g.hi⟩ (nk a) = true ∧ Ky.inn ⟨g.lo, g.hi⟩ (nk b) = true)) ∧ ((fo g [a, b]).2 = 0 → (fo g [a, b]).1 = ⟨g.leaf, g.lo, g.hi, g.r, chg (chg g.l a) b⟩) := by
  have h1 : fo g [a, b] = ap (apply g a) b := rfl
  rw [h1, apply_chg g ha]
  by_cases m1 : may a = true
  · rw [if_pos m1]
    by_cases i1 : Ky.inn ⟨g.lo, g.hi⟩ (nk a) = true
    · rw [if_pos i1]
      unfold ap
      rw [if_pos rfl, apply_chg _ hb]
      by_cases m2 : may b = true
      · rw [if_pos m2]
        simp only
        by_cases i2 : Ky.inn ⟨g.lo, g.hi⟩ (nk b) = true
        · rw [if_pos i2]; simp [m1, m2, i1, i2]
        · rw [if_neg i2]; simp [i2]
      · rw [if_neg m2]; simp [m2]
    · rw [if_neg i1]
      unfold ap
      simp [i1]
  · rw [if_neg m1]
    unfold ap
    simp [m1]

/-- Two changes of different keys, in either order: both are refused or the page is the same. -/
theorem swap {g : Pp} (hm : Pg.may g.leaf ⟨g.lo, g.hi⟩ g.r g.l = true) {a b : De} (ha : a.k = 1 ∨ a.k = 2) (hb : b.k = 1 ∨ b.k = 2) (hne : (a.e.key.toList ++ a.key.toList) ≠ (b.e.key.toList ++ b.key.toList)) :
    ((fo g [a, b]).2 = 0 ↔ (fo g [b, a]).2 = 0) ∧ ((fo g [a, b]).2 = 0 → (fo g [a, b]).1 = (fo g [b, a]).1) := by
  have hg : Pw g.l := Pg.ris_pair.1 (Pg.fits_ris (Pg.may_parts hm).2.1)
  obtain ⟨h1, h2⟩ := fo_two g ha hb
  obtain ⟨h3, h4⟩ := fo_two g hb ha
  have hiff : (fo g [a, b]).2 = 0 ↔ (fo g [b, a]).2 = 0 := by
    rw [h1, h3]
    exact ⟨fun ⟨a, b, c, d⟩ => ⟨b, a, d, c⟩, fun ⟨a, b, c, d⟩ => ⟨b, a, d, c⟩⟩
  refine ⟨hiff, fun h0 => ?_⟩
  rw [h2 h0, h4 (hiff.1 h0)]
  obtain ⟨m1, m2, -⟩ := h1.1 h0
  congr 1
  refine chg_swap hg fun hk => hne ?_
  have nm : ∀ d : De, may d = true → (d.k = 1 ∨ d.k = 2) → d.e.key.toList ++ d.key.toList = (nk d).toList := by
    intro d hd hk
    unfold may same at hd
    simp only [Bool.and_eq_true] at hd
    obtain ⟨⟨-, he, hkey, -⟩, -⟩ := hd
    rcases hk with hk | hk
    · have : d.key.toList = [] := by
        have := eq_of_beq hkey
        rw [this]
        unfold named
        rw [if_pos hk]
        exact ByteArray.toList_eq _
      unfold nk
      rw [if_pos hk, this, List.append_nil]
    · have he2 := (En.eqb_iff _ _).1 he
      have : d.e.key.toList = [] := by
        rw [he2]
        unfold named
        rw [if_neg (by rw [hk]; decide), if_pos hk]
        exact ByteArray.toList_eq _
      unfold nk
      rw [if_neg (by rw [hk]; decide), this, List.nil_append]
  rw [nm a m1 ha, nm b m2 hb, hk]

theorem putL_le (l : List En) (e : En) : (Pg.putL l e).length ≤ l.length + 1 := by
  unfold Pg.putL Pg.ins
  split
  · simp
  · first | (simp; done) | (simp; omega)
theorem without_le (l : List En) (k : ByteArray) : (Dr.without l k).length ≤ l.length := by
  unfold Dr.without Pg.del
  split
  · first | (simp; done) | (simp; omega)
  · exact Nat.le_refl _
theorem entS_le (l : List En) (d : De) : (entS l d).length ≤ l.length + d.rt.l.length + 1 := by
  unfold entS
  split
  · have := putL_le l d.e; omega
  · split
    · have := without_le l d.key; omega
    · split
      · have := List.length_filter_le (fun e : En => Ky.lt e.key d.key) l; omega
      · split
        · simp
        · omega
end Dl
end Go.Proofs.YtoehlgigidgfpaaGreat

namespace Go.Proofs.YtoehlgigidgfpaaGreat
open Go.ChangeShapes Go.WideShapes Go.ChangeAt Go.RowKit
set_option linter.unusedVariables false
set_option maxRecDepth 100000

theorem bulk_one {H : Type} (d : DataW H) : 1 ≤ Rows.uptoBulk d := by
  cases d with
  | lit l => cases l <;> simp [Rows.uptoBulk]
  | nil => simp [Rows.uptoBulk]
  | ptr d => simp [Rows.uptoBulk]
  | slice elems spare => simp [Rows.uptoBulk]
  | agg parts => simp [Rows.uptoBulk]
  | iface t d => simp [Rows.uptoBulk]
  | map entries => simp [Rows.uptoBulk]
  | held h => simp [Rows.uptoBulk]

theorem bulk_length {H : Type} (l : List (DataW H)) : l.length ≤ Rows.uptoBulkAll l := by
  induction l with
  | nil => simp [Rows.uptoBulkAll]
  | cons x r ih =>
    have := bulk_one x
    simp only [Rows.uptoBulkAll, List.length_cons]
    omega

theorem bulk_part {H : Type} {d : DataW H} {l : List (DataW H)} (h : d ∈ l) : Rows.uptoBulk d ≤ Rows.uptoBulkAll l := by
  induction l with
  | nil => cases h
  | cons x r ih =>
    simp only [Rows.uptoBulkAll]
    cases List.mem_cons.1 h with
    | inl e => subst e; omega
    | inr e => have := ih e; omega

theorem bulk_bound {H : Type} {l : List (DataW H)} (hk : Rows.uptoSmall H l = true) : Rows.uptoBulkAll l ≤ 1048576 := of_decide_eq_true hk

theorem small_slice {H : Type} {l : List (DataW H)} (hk : Rows.uptoSmall H l = true) {d : DataW H} (hd : d ∈ l) : ∀ elems spare, d = .slice elems spare → elems.length + spare.length ≤ 1048576 := by
  intro elems spare e
  subst e
  have h1 := bulk_part hd
  have h2 := bulk_bound hk
  have h3 := bulk_length elems
  have h4 := bulk_length spare
  simp only [Rows.uptoBulk] at h1
  omega

theorem small_string {H : Type} {l : List (DataW H)} (hk : Rows.uptoSmall H l = true) {s : ByteArray} (hd : DataW.lit (.string s.data.toList) ∈ l) : s.size ≤ 1048576 := by
  have h1 := bulk_part hd
  have h2 := bulk_bound hk
  simp only [Rows.uptoBulk] at h1
  have e : s.data.toList.length = s.size := by rw [Array.length_toList]; rfl
  omega

theorem page_upto {H : Type} {l : List (DataW H)} (hk : Rows.uptoSmall H l = true) {d : DataW H} (hd : d ∈ l) :
    ∀ y0 y1 y2 y3 elems spare, d = .agg [y0, y1, y2, y3, .slice elems spare] → elems.length + spare.length ≤ 1048576 ∧ ∀ y ∈ elems, ∀ k r, y = .agg (.lit (.string k) :: r) → k.length ≤ 140737488351232 := by
  intro y0 y1 y2 y3 elems spare e
  subst e
  have h1 := bulk_part hd
  have h2 := bulk_bound hk
  have h3 := bulk_length elems
  have h4 := bulk_length spare
  simp only [Rows.uptoBulk, Rows.uptoBulkAll] at h1
  refine ⟨by omega, fun y hy k r hy2 => ?_⟩
  have h5 := bulk_part hy
  rw [hy2] at h5
  simp only [Rows.uptoBulk, Rows.uptoBulkAll] at h5
  omega

end Go.Proofs.YtoehlgigidgfpaaGreat

namespace Go.Proofs.YtoehlgigidgfpaaGreat
open Go.RowKit
set_option linter.unusedVariables false

theorem delta_upto {H : Type} {l : List (DataW H)} (hk : Rows.uptoSmall H l = true) {d : DataW H} (hd : d ∈ l) :
    ∀ y0 y1 y2 y3 z0 z1 z2 z3 elems spare, d = .agg [y0, y1, y2, y3, .agg [z0, z1, z2, z3, .slice elems spare]] → elems.length + spare.length ≤ 1048576 ∧ ∀ y ∈ elems, ∀ k r, y = .agg (.lit (.string k) :: r) → k.length ≤ 140737488351232 := by
  intro y0 y1 y2 y3 z0 z1 z2 z3 elems spare e
  subst e
  have h1 := bulk_part hd
  have h2 := bulk_bound hk
  have h3 := bulk_length elems
  have h4 := bulk_length spare
  simp only [Rows.uptoBulk, Rows.uptoBulkAll] at h1
  refine ⟨by omega, fun y hy k r hy2 => ?_⟩
  have h5 := bulk_part hy
  rw [hy2] at h5
  simp only [Rows.uptoBulk, Rows.uptoBulkAll] at h5
  omega

end Go.Proofs.YtoehlgigidgfpaaGreat

namespace Go.Proofs.YtoehlgigidgfpaaGreat
open Go.ChangeShapes Go.WideShapes Go.ChangeAt Go.RowKit
open Go.ChangeMaps (open_string shut_string)
set_option linter.unusedVariables false
set_option maxRecDepth 100000

/-- Deltas that came in. -/
structure InDs (w : World) (p : Option Addr) (len cap : Nat) (L : List Dm) : Prop where
  lenq : L.length = len
  room : len ≤ 1048576
  le : len ≤ cap
  nil : p = none → len = 0 ∧ cap = 0
  des : Des w p L
  each : ∀ m ∈ L, m.n ≤ 1048576

theorem delta_bulk {H : Type} {d : DataW H} (hk : Rows.uptoBulk d ≤ 1048576) :
    ∀ y0 y1 y2 y3 z0 z1 z2 z3 elems spare, d = .agg [y0, y1, y2, y3, .agg [z0, z1, z2, z3, .slice elems spare]] → elems.length + spare.length ≤ 1048576 ∧ ∀ y ∈ elems, ∀ k r, y = .agg (.lit (.string k) :: r) → k.length ≤ 140737488351232 := by
  intro y0 y1 y2 y3 z0 z1 z2 z3 elems spare e
  subst e
  have h3 := bulk_length elems
  have h4 := bulk_length spare
  simp only [Rows.uptoBulk, Rows.uptoBulkAll] at hk
  refine ⟨by omega, fun y hy k r hy2 => ?_⟩
  have h5 := bulk_part hy
  rw [hy2] at h5
  simp only [Rows.uptoBulk, Rows.uptoBulkAll] at h5
  omega

theorem in_deltas {H : Type} {enc : TypeId × Value → H} {W : World} {a : Option Addr} {len cap : Nat} {d : DataW H} {p : List MemPlace} {ls : List (DataW H)} (hk : Rows.uptoSmall H ls = true) (hd : d ∈ ls)
    (h : DataW.Trod enc Tryz.prog W 0 (fun _ => true) true 64 (.slice a len cap) d p) : ∃ L, InDs W a len cap L := by
  obtain ⟨fuel, hf⟩ := h
  rcases Go.Deep.open_slice Tryz.underlying64 hf with ⟨hcs, _⟩ | ⟨x, l, c, m, n, D, Pl, hcs, _, hl, hm, hmm, hx, hall⟩
  · simp [Value.cells] at hcs
    obtain ⟨rfl, rfl, rfl⟩ := hcs
    exact ⟨[], rfl, Nat.zero_le _, Nat.le_refl _, fun _ => ⟨rfl, rfl⟩, Des.nil _ _, by simp⟩
  · simp [Value.cells] at hcs
    obtain ⟨rfl, rfl, rfl⟩ := hcs
    simp only [if_true] at hmm
    subst hmm
    have ek : Tryz.prog.cellsOf 35 = 12 := by kernel_rfl
    rw [ek] at hall
    simp only [Prod.mk.injEq] at hx
    have hroom := small_slice hk hd _ _ hx.1
    simp at hroom
    have hbulk : ∀ i, i < len → Rows.uptoBulk (D i) ≤ 1048576 := by
      intro i hi
      have h1 := bulk_part hd
      have h2 := bulk_bound hk
      rw [hx.1] at h1
      have h3 : D i ∈ (List.range len).map D := List.mem_map.2 ⟨i, List.mem_range.2 hi, rfl⟩
      have h4 := bulk_part h3
      simp only [Rows.uptoBulk] at h1
      omega
    have hin : Inhabited Dm := ⟨⟨Dl.zero, none, 0, 0⟩⟩
    obtain ⟨G, hG⟩ := Go.Deep.choose_lt (n := len) (α := Dm) (p := fun i g => W.cells? 0 (x.add (i * 12)) 12 = some g.cells ∧ g.Ok W ∧ g.n ≤ 1048576) (fun i hi => by
      obtain ⟨cs, h1, h2⟩ := hall i (by omega)
      obtain ⟨dd, pa, pn, pc, rfl, hr⟩ := in_delta (M := 1048576) h2 (delta_bulk (hbulk i hi))
      refine ⟨⟨dd, pa, pn, pc⟩, h1, ⟨hr.right.lenq, hr.right.ens, hr.right.nil, hr.right.le, ?_⟩, ?_⟩
      · exact Nat.le_trans hr.right.room (by decide)
      · exact hr.right.room)
    refine ⟨(List.range len).map G, by simp, by omega, hl, (fun h => by cases h), fun hpos => ?_, ?_⟩
    · have hpos' : 0 < len := by simpa using hpos
      have h0 := rcells_at (hG 0 hpos').1 0 _ rfl
      obtain ⟨b, off, spot⟩ := x
      have hspot : spot = none := by
        have := World.cell?_spot h0
        simpa [Addr.add] using this
      subst hspot
      refine ⟨b, off, rfl, fun i g hi => ?_⟩
      have hil : i < len := by
        have := (List.getElem?_eq_some_iff.1 hi).1
        simpa using this
      have hg : g = G i := by simpa [hil] using hi.symm
      subst hg
      refine ⟨fun j v hv => ?_, (hG i hil).2.1⟩
      have := rcells_at (hG i hil).1 j v hv
      rw [Addr.add_lit, Addr.add_lit] at this
      exact this
    · intro g hg
      obtain ⟨i, hi, rfl⟩ := List.mem_map.1 hg
      exact (hG i (List.mem_range.1 hi)).2.2

end Go.Proofs.YtoehlgigidgfpaaGreat

namespace Go.Proofs.YtoehlgigidgfpaaGreat
open Go.RowKit Go.Sort
set_option linter.unusedVariables false
set_option maxRecDepth 100000

set_option maxHeartbeats 1000000 in
theorem rclone_any (leaf : Bool) (lo hi : ByteArray) (r : Int) (p : Option Addr) (len cap : Nat) (l : List En) (w : World) (hlen : l.length = len) (hx : Ens w p l) (hl : len ≤ 3518437208782) (hp : p = none → len = 0 ∧ cap = 0) :
    Calls Tryz.prog 32 #[pgv leaf lo hi r p len cap] w fun e w' => ∃ p' cap', e = .returned (pgv leaf lo hi r p' len cap') ∧ OwnE w' w.heap.size (.slice p' len cap') l ∧ Below w.heap.size w w' := by
  obtain ⟨w0, hw0⟩ : ∃ w0, (w.alloc (.cells (pgc leaf lo hi r p len cap) 29)).alloc (.cells #[.bool false, .string ⟨#[]⟩, .string ⟨#[]⟩, .int .i64 0, .slice none 0 0] 29) = w0 := ⟨_, rfl⟩
  have HB0 : Hid (Below w.heap.size w w0) := by rw [← hw0]; exact ((Below.refl _ _).alloc (Nat.le_refl _) _).alloc (by simp) _
  have HK0 : Hid (Bk w0 w.heap.size 29 (pgc leaf lo hi r p len cap)) := by rw [← hw0]; exact (Bk.new _ _ _).alloc _
  have HR0 : Hid (Bk w0 (w.heap.size + 1) 29 #[.bool false, .string ⟨#[]⟩, .string ⟨#[]⟩, .int .i64 0, .slice none 0 0]) := by rw [← hw0]; exact Bk.new1 _ _ _ _
  have HL : Hid (l.length = len) := hlen
  obtain ⟨v1, w1, hr, ho, hg, hor⟩ := run_appE w0 w0.heap.size 27 (.slice none 0 0) [] l p len cap hlen (hx.below HB0.out (Nat.le_refl _)) hp (OwnE.nil _ _) (by simp; omega) (Nat.le_refl _)
  have hb : Below w0.heap.size w0 w1 := (Below.refl _ _).grown hg (Nat.le_refl _) (fun k hk => by cases hk)
  rw [List.nil_append] at ho
  obtain ⟨q, c, rfl, -, -⟩ := ho.ens
  have HR : Hid _ := hr
  have HO : Hid (OwnE w1 w0.heap.size (.slice q l.length c) l) := ho
  have HB1 : Hid (Below w.heap.size w w1) := HB0.out.trans (hb.mono HB0.out.size)
  have HK1 : Hid (Bk w1 w.heap.size 29 (pgc leaf lo hi r p len cap)) := HK0.out.below hb HK0.out.lt
  have HR1 : Hid (Bk w1 (w.heap.size + 1) 29 #[.bool false, .string ⟨#[]⟩, .string ⟨#[]⟩, .int .i64 0, .slice none 0 0]) := HR0.out.below hb HR0.out.lt
  have HS0 : Hid (w.heap.size + 1 < w0.heap.size) := HR0.out.lt
  rw [hlen] at HO HR
  clear ho hb hr hg hor hx hlen hp
  have k4 : w0.cell? ⟨w.heap.size, 4, none⟩ = some (.slice p len cap) := HK0.out.cell 4
  have a0 : w1.cell? ⟨w.heap.size, 0, none⟩ = some (.bool leaf) := HK1.out.cell 0
  have a1 : w1.cell? ⟨w.heap.size, 1, none⟩ = some (.string lo) := HK1.out.cell 1
  have a2 : w1.cell? ⟨w.heap.size, 2, none⟩ = some (.string hi) := HK1.out.cell 2
  have a3 : w1.cell? ⟨w.heap.size, 3, none⟩ = some (.int .i64 r) := HK1.out.cell 3
  have a4 : w1.cell? ⟨w.heap.size, 4, none⟩ = some (.slice p len cap) := HK1.out.cell 4
  have f4 : w1.frozen? ⟨w.heap.size, 4, none⟩ = false := HK1.out.frozen 4
  have b0 : w1.cell? ⟨w.heap.size + 1, 0, none⟩ = some (.bool false) := HR1.out.cell 0
  have b1 : w1.cell? ⟨w.heap.size + 1, 1, none⟩ = some (.string ⟨#[]⟩) := HR1.out.cell 1
  have b2 : w1.cell? ⟨w.heap.size + 1, 2, none⟩ = some (.string ⟨#[]⟩) := HR1.out.cell 2
  have b3 : w1.cell? ⟨w.heap.size + 1, 3, none⟩ = some (.int .i64 0) := HR1.out.cell 3
  have b4 : w1.cell? ⟨w.heap.size + 1, 4, none⟩ = some (.slice none 0 0) := HR1.out.cell 4
  have g0 : w1.frozen? ⟨w.heap.size + 1, 0, none⟩ = false := HR1.out.frozen 0
  have g1 : w1.frozen? ⟨w.heap.size + 1, 1, none⟩ = false := HR1.out.frozen 1
  have g2 : w1.frozen? ⟨w.heap.size + 1, 2, none⟩ = false := HR1.out.frozen 2
  have g3 : w1.frozen? ⟨w.heap.size + 1, 3, none⟩ = false := HR1.out.frozen 3
  have g4 : w1.frozen? ⟨w.heap.size + 1, 4, none⟩ = false := HR1.out.frozen 4
  go_enter Tryz.func32, Tryz.ntmps32
  go_wp2_with (at_builtin; refine Lib.wpList_append_run _ rfl _ _ _ _ rfl _ _ rfl rfl _ _ HR.out ?_)
  refine bodyPost_ret (results_one (cs := [.bool leaf, .string lo, .string hi, .int .i64 r, .slice q len c]) rfl rfl pg_agg pg_size rfl (((HR1.out.other (p := ⟨w.heap.size, 4, none⟩) (by simp) _).five _ _ _ _ _))) rfl ?_
  have ht : Tn [w.heap.size, w.heap.size + 1] w1 (put5 (w1.setCell ⟨w.heap.size, 4, none⟩ (.slice q len c)) (w.heap.size + 1) (.bool leaf) (.string lo) (.string hi) (.int .i64 r) (.slice q len c)) :=
    ((Tn.refl _ _).setCell (p := ⟨w.heap.size, 4, none⟩) (.inl (by simp)) _).five (.inl (by simp)) _ _ _ _ _
  have hs0 := HS0.out
  refine ⟨q, c, rfl, (HO.out.tn ht (by simp; omega)).mono HB0.out.size, HB1.out.trans (ht.below HB1.out.size (by simp))⟩

end Go.Proofs.YtoehlgigidgfpaaGreat

namespace Go.Proofs.YtoehlgigidgfpaaGreat
open Go.RowKit
set_option linter.unusedVariables false
set_option maxRecDepth 100000

set_option maxHeartbeats 4000000 in
theorem rdclone_any (a : De) (ap : Option Addr) (an ac : Nat) (w : World) (hna : a.rt.l.length = an) (ha : Ens w ap a.rt.l) (hl : an ≤ 3518437208782) (hp : ap = none → an = 0 ∧ ac = 0) :
    Calls Tryz.prog 33 #[dlv a.k a.e a.key a.pg a.rt.leaf a.rt.lo a.rt.hi a.rt.r ap an ac] w fun r w' => ∃ q qc, r = .returned (dlv a.k a.e a.key a.pg a.rt.leaf a.rt.lo a.rt.hi a.rt.r q an qc) ∧ OwnE w' w.heap.size (.slice q an qc) a.rt.l ∧ Below w.heap.size w w' := by
  have hq := fun (W : World) (h : Below w.heap.size w W) => rclone_any a.rt.leaf a.rt.lo a.rt.hi a.rt.r ap an ac a.rt.l W hna (ha.below h (Nat.le_refl _)) hl hp
  have HQ : Hid _ := hq
  clear hq ha hna hp
  obtain ⟨ak, ⟨aek, aes, aeg, aec⟩, akey, apg, ⟨aleaf, alo, ahi, ar, al⟩⟩ := a
  simp only at *
  obtain ⟨w0, hw0⟩ : ∃ w0, (w.alloc (.cells #[.int .i64 ak, .string aek, .int .i64 aes, .int .i64 aeg, .int .i64 aec, .string akey, .int .i64 apg, .bool aleaf, .string alo, .string ahi, .int .i64 ar, .slice ap an ac] 35)).alloc (.cells #[.int .i64 0, .string ⟨#[]⟩, .int .i64 0, .int .i64 0, .int .i64 0, .string ⟨#[]⟩, .int .i64 0, .bool false, .string ⟨#[]⟩, .string ⟨#[]⟩, .int .i64 0, .slice none 0 0] 35) = w0 := ⟨_, rfl⟩
  have HB0 : Hid (Below w.heap.size w w0) := by rw [← hw0]; exact ((Below.refl _ _).alloc (Nat.le_refl _) _).alloc (by simp) _
  have HK0 : Hid (Bk w0 w.heap.size 35 #[.int .i64 ak, .string aek, .int .i64 aes, .int .i64 aeg, .int .i64 aec, .string akey, .int .i64 apg, .bool aleaf, .string alo, .string ahi, .int .i64 ar, .slice ap an ac]) := by rw [← hw0]; exact (Bk.new _ _ _).alloc _
  have HR0 : Hid (Bk w0 (w.heap.size + 1) 35 #[.int .i64 0, .string ⟨#[]⟩, .int .i64 0, .int .i64 0, .int .i64 0, .string ⟨#[]⟩, .int .i64 0, .bool false, .string ⟨#[]⟩, .string ⟨#[]⟩, .int .i64 0, .slice none 0 0]) := by rw [← hw0]; exact Bk.new1 _ _ _ _
  have x0 : w0.cell? ⟨w.heap.size, 0, none⟩ = some (.int .i64 ak) := HK0.out.cell 0
  have x1 : w0.cell? ⟨w.heap.size, 1, none⟩ = some (.string aek) := HK0.out.cell 1
  have x2 : w0.cell? ⟨w.heap.size, 2, none⟩ = some (.int .i64 aes) := HK0.out.cell 2
  have x3 : w0.cell? ⟨w.heap.size, 3, none⟩ = some (.int .i64 aeg) := HK0.out.cell 3
  have x4 : w0.cell? ⟨w.heap.size, 4, none⟩ = some (.int .i64 aec) := HK0.out.cell 4
  have x5 : w0.cell? ⟨w.heap.size, 5, none⟩ = some (.string akey) := HK0.out.cell 5
  have x6 : w0.cell? ⟨w.heap.size, 6, none⟩ = some (.int .i64 apg) := HK0.out.cell 6
  have x7 : w0.cell? ⟨w.heap.size, 7, none⟩ = some (.bool aleaf) := HK0.out.cell 7
  have x8 : w0.cell? ⟨w.heap.size, 8, none⟩ = some (.string alo) := HK0.out.cell 8
  have x9 : w0.cell? ⟨w.heap.size, 9, none⟩ = some (.string ahi) := HK0.out.cell 9
  have x10 : w0.cell? ⟨w.heap.size, 10, none⟩ = some (.int .i64 ar) := HK0.out.cell 10
  have x11 : w0.cell? ⟨w.heap.size, 11, none⟩ = some (.slice ap an ac) := HK0.out.cell 11
  go_enter Tryz.func33, Tryz.ntmps33
  go_wp2_with fail
  clear hw0
  refine (HQ.out _ HB0.out).mono ?_
  rintro e w1 ⟨q, qc, rfl, ho, hb1⟩
  have HO1 : Hid (OwnE w1 w0.heap.size (.slice q an qc) al) := ho
  have HB1 : Hid (Below w.heap.size w w1) := HB0.out.trans (hb1.mono HB0.out.size)
  have HK1 : Hid (Bk w1 w.heap.size 35 #[.int .i64 ak, .string aek, .int .i64 aes, .int .i64 aeg, .int .i64 aec, .string akey, .int .i64 apg, .bool aleaf, .string alo, .string ahi, .int .i64 ar, .slice ap an ac]) := HK0.out.below hb1 HK0.out.lt
  have HR1 : Hid (Bk w1 (w.heap.size + 1) 35 #[.int .i64 0, .string ⟨#[]⟩, .int .i64 0, .int .i64 0, .int .i64 0, .string ⟨#[]⟩, .int .i64 0, .bool false, .string ⟨#[]⟩, .string ⟨#[]⟩, .int .i64 0, .slice none 0 0]) := HR0.out.below hb1 HR0.out.lt
  have HS0 : Hid (w.heap.size + 1 < w0.heap.size) := HR0.out.lt
  clear hb1 ho x0 x1 x2 x3 x4 x5 x6 x7 x8 x9 x10 x11
  have x0 : w1.cell? ⟨w.heap.size, 0, none⟩ = some (.int .i64 ak) := HK1.out.cell 0
  have xf0 : w1.frozen? ⟨w.heap.size, 0, none⟩ = false := HK1.out.frozen 0
  have x1 : w1.cell? ⟨w.heap.size, 1, none⟩ = some (.string aek) := HK1.out.cell 1
  have xf1 : w1.frozen? ⟨w.heap.size, 1, none⟩ = false := HK1.out.frozen 1
  have x2 : w1.cell? ⟨w.heap.size, 2, none⟩ = some (.int .i64 aes) := HK1.out.cell 2
  have xf2 : w1.frozen? ⟨w.heap.size, 2, none⟩ = false := HK1.out.frozen 2
  have x3 : w1.cell? ⟨w.heap.size, 3, none⟩ = some (.int .i64 aeg) := HK1.out.cell 3
  have xf3 : w1.frozen? ⟨w.heap.size, 3, none⟩ = false := HK1.out.frozen 3
  have x4 : w1.cell? ⟨w.heap.size, 4, none⟩ = some (.int .i64 aec) := HK1.out.cell 4
  have xf4 : w1.frozen? ⟨w.heap.size, 4, none⟩ = false := HK1.out.frozen 4
  have x5 : w1.cell? ⟨w.heap.size, 5, none⟩ = some (.string akey) := HK1.out.cell 5
  have xf5 : w1.frozen? ⟨w.heap.size, 5, none⟩ = false := HK1.out.frozen 5
  have x6 : w1.cell? ⟨w.heap.size, 6, none⟩ = some (.int .i64 apg) := HK1.out.cell 6
  have xf6 : w1.frozen? ⟨w.heap.size, 6, none⟩ = false := HK1.out.frozen 6
  have x7 : w1.cell? ⟨w.heap.size, 7, none⟩ = some (.bool aleaf) := HK1.out.cell 7
  have xf7 : w1.frozen? ⟨w.heap.size, 7, none⟩ = false := HK1.out.frozen 7
  have x8 : w1.cell? ⟨w.heap.size, 8, none⟩ = some (.string alo) := HK1.out.cell 8
  have xf8 : w1.frozen? ⟨w.heap.size, 8, none⟩ = false := HK1.out.frozen 8
  have x9 : w1.cell? ⟨w.heap.size, 9, none⟩ = some (.string ahi) := HK1.out.cell 9
  have xf9 : w1.frozen? ⟨w.heap.size, 9, none⟩ = false := HK1.out.frozen 9
  have x10 : w1.cell? ⟨w.heap.size, 10, none⟩ = some (.int .i64 ar) := HK1.out.cell 10
  have xf10 : w1.frozen? ⟨w.heap.size, 10, none⟩ = false := HK1.out.frozen 10
  have x11 : w1.cell? ⟨w.heap.size, 11, none⟩ = some (.slice ap an ac) := HK1.out.cell 11
  have xf11 : w1.frozen? ⟨w.heap.size, 11, none⟩ = false := HK1.out.frozen 11
  have y0 : w1.cell? ⟨w.heap.size + 1, 0, none⟩ = some (.int .i64 0) := HR1.out.cell 0
  have yf0 : w1.frozen? ⟨w.heap.size + 1, 0, none⟩ = false := HR1.out.frozen 0
  have y1 : w1.cell? ⟨w.heap.size + 1, 1, none⟩ = some (.string ⟨#[]⟩) := HR1.out.cell 1
  have yf1 : w1.frozen? ⟨w.heap.size + 1, 1, none⟩ = false := HR1.out.frozen 1
  have y2 : w1.cell? ⟨w.heap.size + 1, 2, none⟩ = some (.int .i64 0) := HR1.out.cell 2
  have yf2 : w1.frozen? ⟨w.heap.size + 1, 2, none⟩ = false := HR1.out.frozen 2
  have y3 : w1.cell? ⟨w.heap.size + 1, 3, none⟩ = some (.int .i64 0) := HR1.out.cell 3
  have yf3 : w1.frozen? ⟨w.heap.size + 1, 3, none⟩ = false := HR1.out.frozen 3
  have y4 : w1.cell? ⟨w.heap.size + 1, 4, none⟩ = some (.int .i64 0) := HR1.out.cell 4
  have yf4 : w1.frozen? ⟨w.heap.size + 1, 4, none⟩ = false := HR1.out.frozen 4
  have y5 : w1.cell? ⟨w.heap.size + 1, 5, none⟩ = some (.string ⟨#[]⟩) := HR1.out.cell 5
  have yf5 : w1.frozen? ⟨w.heap.size + 1, 5, none⟩ = false := HR1.out.frozen 5
  have y6 : w1.cell? ⟨w.heap.size + 1, 6, none⟩ = some (.int .i64 0) := HR1.out.cell 6
  have yf6 : w1.frozen? ⟨w.heap.size + 1, 6, none⟩ = false := HR1.out.frozen 6
  have y7 : w1.cell? ⟨w.heap.size + 1, 7, none⟩ = some (.bool false) := HR1.out.cell 7
  have yf7 : w1.frozen? ⟨w.heap.size + 1, 7, none⟩ = false := HR1.out.frozen 7
  have y8 : w1.cell? ⟨w.heap.size + 1, 8, none⟩ = some (.string ⟨#[]⟩) := HR1.out.cell 8
  have yf8 : w1.frozen? ⟨w.heap.size + 1, 8, none⟩ = false := HR1.out.frozen 8
  have y9 : w1.cell? ⟨w.heap.size + 1, 9, none⟩ = some (.string ⟨#[]⟩) := HR1.out.cell 9
  have yf9 : w1.frozen? ⟨w.heap.size + 1, 9, none⟩ = false := HR1.out.frozen 9
  have y10 : w1.cell? ⟨w.heap.size + 1, 10, none⟩ = some (.int .i64 0) := HR1.out.cell 10
  have yf10 : w1.frozen? ⟨w.heap.size + 1, 10, none⟩ = false := HR1.out.frozen 10
  have y11 : w1.cell? ⟨w.heap.size + 1, 11, none⟩ = some (.slice none 0 0) := HR1.out.cell 11
  have yf11 : w1.frozen? ⟨w.heap.size + 1, 11, none⟩ = false := HR1.out.frozen 11
  go_wp2_with fail
  have k1 := HR1.out.fiveO2 (show w.heap.size + 1 ≠ w.heap.size by omega) (.bool aleaf) (.string alo) (.string ahi) (.int .i64 ar) (.slice q an qc)
  have hA := Bk.twelve k1 (.int .i64 ak) (.string aek) (.int .i64 aes) (.int .i64 aeg) (.int .i64 aec) (.string akey) (.int .i64 apg) (.bool aleaf) (.string alo) (.string ahi) (.int .i64 ar) (.slice q an qc)
  have ht : Tn [w.heap.size, w.heap.size + 1] w1 _ := ((Tn.refl _ _).five2 (R := w.heap.size) (.inl (by simp)) (.bool aleaf) (.string alo) (.string ahi) (.int .i64 ar) (.slice q an qc)).twelve (R := w.heap.size + 1) (.inl (by simp)) (.int .i64 ak) (.string aek) (.int .i64 aes) (.int .i64 aeg) (.int .i64 aec) (.string akey) (.int .i64 apg) (.bool aleaf) (.string alo) (.string ahi) (.int .i64 ar) (.slice q an qc)
  refine bodyPost_ret (results_one (cs := [.int .i64 ak, .string aek, .int .i64 aes, .int .i64 aeg, .int .i64 aec, .string akey, .int .i64 apg, .bool aleaf, .string alo, .string ahi, .int .i64 ar, .slice q an qc]) rfl rfl dl_agg dl_size rfl hA) rfl ?_
  refine ⟨q, qc, rfl, ?_, HB1.out.trans (ht.below HB1.out.size (by simp))⟩
  exact (HO1.out.tn ht (by have := HS0.out; simp; omega)).mono HB0.out.size


end Go.Proofs.YtoehlgigidgfpaaGreat

namespace Go.Proofs.YtoehlgigidgfpaaGreat
open Go.RowKit Go.Sort
set_option linter.unusedVariables false
set_option maxRecDepth 100000

theorem Bk.unlike {w : World} {a b : Nat} {t t' : TypeId} {cs cs' : Array Value} (h : Bk w a t cs) (k : Bk w b t' cs') (ht : t ≠ t') : a ≠ b := by
  intro e
  subst e
  have := (show w.heap[a]? = _ from h).symm.trans (show w.heap[a]? = _ from k)
  simp at this
  exact ht this.2

/-- What turns a page's own block leaves entries. -/
theorem Seg.page {w w' : World} {base : Nat} {p : Option Addr} {len cap b : Nat} {l : List En} {cs : Array Value} (h : Seg w base p len cap l) (k : Bk w b 29 cs) (t : Tn [b] w w') : Seg w' base p len cap l := by
  refine ⟨h.lenq, h.le, ?_⟩
  rcases h.form with hn | ⟨g, o, cur, hp, hb, hg, rest⟩
  · exact .inl hn
  · exact .inr ⟨g, o, cur, hp, hb, hg.tn t (by simpa using hg.unlike k (by decide)), rest⟩

/-- Nothing has turned but rows of entries from m0 on and ahead of D, which are as long as they were. -/
structure Wq (m0 D : Nat) (w w' : World) : Prop where
  os : w'.os = w.os
  tape : w'.tape = w.tape
  output : w'.output = w.output
  size : w.heap.size ≤ w'.heap.size
  block : ∀ k, k < w.heap.size → w'.heap[k]? = w.heap[k]? ∨ (m0 ≤ k ∧ k < D ∧ ∃ cur cur', Bk w k 33 cur ∧ Bk w' k 33 cur' ∧ cur'.size = cur.size)

theorem Wq.refl (m0 D : Nat) (w : World) : Wq m0 D w w := ⟨rfl, rfl, rfl, Nat.le_refl _, fun _ _ => .inl rfl⟩

theorem Wq.trans {m0 D : Nat} {a b c : World} (h : Wq m0 D a b) (k : Wq m0 D b c) : Wq m0 D a c := by
  refine ⟨k.os.trans h.os, k.tape.trans h.tape, k.output.trans h.output, Nat.le_trans h.size k.size, fun i hi => ?_⟩
  have hib := Nat.lt_of_lt_of_le hi h.size
  rcases h.block i hi with h1 | ⟨h1, h2, cur, cur', h3, h4, h5⟩
  · rcases k.block i hib with k1 | ⟨k1, k2, cur2, cur3, k3, k4, k5⟩
    · exact .inl (k1.trans h1)
    · exact .inr ⟨k1, k2, cur2, cur3, (h1.symm.trans k3 : a.heap[i]? = _), k4, k5⟩
  · rcases k.block i hib with k1 | ⟨k1, k2, cur2, cur3, k3, k4, k5⟩
    · exact .inr ⟨h1, h2, cur, cur', h3, (k1.trans h4 : c.heap[i]? = _), h5⟩
    · have e : cur' = cur2 := by
        have := (show b.heap[i]? = _ from h4).symm.trans (show b.heap[i]? = _ from k3)
        simpa using this
      subst e
      exact .inr ⟨h1, h2, cur, cur3, h3, k4, k5.trans h5⟩

theorem Wq.of_below {m0 D : Nat} {w w' : World} (h : Below w.heap.size w w') : Wq m0 D w w' := ⟨h.os, h.tape, h.output, h.size, fun k hk => .inl (h.block k hk)⟩

theorem Wq.below {m0 D : Nat} {w w' : World} (h : Wq m0 D w w') (hm : m0 ≤ w.heap.size) : Below m0 w w' := by
  refine ⟨h.os, h.tape, h.output, h.size, fun k hk => ?_⟩
  rcases h.block k (by omega) with h1 | ⟨h1, _⟩
  · exact h1
  · omega

theorem Wq.bk {m0 D : Nat} {w w' : World} (h : Wq m0 D w w') {b : Nat} {t : TypeId} {cs : Array Value} (k : Bk w b t cs) (hb : D ≤ b) : Bk w' b t cs := by
  rcases h.block b k.lt with h1 | ⟨_, h2, _⟩
  · exact h1.trans k
  · omega

theorem Wq.row {m0 D g : Nat} {w : World} {cur cur' : Array Value} (k : Bk w g 33 cur) (hm : m0 ≤ g) (hD : g < D) (hs : cur'.size = cur.size) : Wq m0 D w (w.setRow g cur') := by
  have t : Tn [g] w (w.setRow g cur') := (Tn.refl [g] w).setRow (.inl (by simp)) cur'
  refine ⟨t.os, t.tape, t.output, t.size, fun i hi => ?_⟩
  by_cases hig : i = g
  · subst hig
    exact .inr ⟨hm, hD, cur, cur', k, k.setRow cur', hs⟩
  · exact .inl (t.block i hi (by simpa using hig))

theorem Wq.cell {m0 D g i : Nat} {w : World} {cur : Array Value} (k : Bk w g 33 cur) (hm : m0 ≤ g) (hD : g < D) (u : Value) : Wq m0 D w (w.setCell ⟨g, i, none⟩ u) := by
  have t : Tn [g] w (w.setCell ⟨g, i, none⟩ u) := (Tn.refl [g] w).setCell (.inl (by simp)) u
  refine ⟨t.os, t.tape, t.output, t.size, fun j hj => ?_⟩
  by_cases hig : j = g
  · subst hig
    exact .inr ⟨hm, hD, cur, _, k, k.set i u, by simp⟩
  · exact .inl (t.block j hj (by simpa using hig))

/-- A row that may be spoilt: it lies from m0 on and ahead of D. -/
def SpE (m0 D : Nat) (p : Option Addr) (n cap : Nat) (w : World) : Prop :=
  n ≤ cap ∧ ((p = none ∧ n = 0 ∧ cap = 0) ∨ ∃ g o cur, p = some ⟨g, o, none⟩ ∧ m0 ≤ g ∧ g < D ∧ Bk w g 33 cur ∧ o + cap * 4 ≤ cur.size)

theorem Seg.sp {w : World} {base m0 D : Nat} {p : Option Addr} {len cap : Nat} {l : List En} (h : Seg w base p len cap l) (hb : m0 ≤ base) (hD : w.heap.size ≤ D) : SpE m0 D p len cap w := by
  refine ⟨h.le, ?_⟩
  rcases h.form with hn | ⟨g, o, cur, hp, hbb, hg, hs, _⟩
  · exact .inl hn
  · exact .inr ⟨g, o, cur, hp, by omega, Nat.lt_of_lt_of_le hg.lt hD, hg, hs⟩

theorem SpE.wq {m0 D : Nat} {p : Option Addr} {n cap : Nat} {w w' : World} (h : SpE m0 D p n cap w) (k : Wq m0 D w w') : SpE m0 D p n cap w' := by
  obtain ⟨h0, h1⟩ := h
  refine ⟨h0, ?_⟩
  rcases h1 with hn | ⟨g, o, cur, hp, hm, hD, hg, hs⟩
  · exact .inl hn
  · rcases k.block g hg.lt with k1 | ⟨k1, k2, cur2, cur3, k3, k4, k5⟩
    · exact .inr ⟨g, o, cur, hp, hm, hD, k1.trans hg, hs⟩
    · have e : cur = cur2 := by
        have := (show w.heap[g]? = _ from hg).symm.trans (show w.heap[g]? = _ from k3)
        simpa using this
      subst e
      exact .inr ⟨g, o, cur3, hp, hm, hD, k4, by omega⟩

theorem SpE.up {m0 D : Nat} {p : Option Addr} {n cap : Nat} {w w' : World} (h : SpE m0 D p n cap w) (k : Below w.heap.size w w') : SpE m0 D p n cap w' := h.wq (Wq.of_below k)

theorem SpE.at {m0 D : Nat} {p : Option Addr} {n cap : Nat} {w : World} (h : SpE m0 D p n cap w) {i : Nat} (hi : i < n) : ∃ g o u, p = some ⟨g, o, none⟩ ∧ w.cell? ⟨g, o + i * 4, none⟩ = some u ∧ w.frozen? ⟨g, o + i * 4, none⟩ = false ∧ ∀ x, Wq m0 D w (w.setCell ⟨g, o + i * 4, none⟩ x) := by
  obtain ⟨h0, h1⟩ := h
  rcases h1 with ⟨_, hn, _⟩ | ⟨g, o, cur, hp, hm, hD, hg, hs⟩
  · omega
  · have hlt : o + i * 4 < cur.size := by omega
    exact ⟨g, o, cur[o + i * 4], hp, by rw [hg.cell]; simp [hlt], hg.frozen _, fun x => Wq.cell hg hm hD x⟩

theorem own_slice {w : World} {base : Nat} {e : TypeId} {size : Nat} {v : Value} {n : Nat} {xs : List Value} (h : w.ownsRow base e size v n xs) : ∃ q k c, v = .slice q k c := by
  rcases h.2 with ⟨hv, _⟩ | ⟨g, cap, cur, hv, _⟩
  · exact ⟨_, _, _, hv⟩
  · exact ⟨_, _, _, hv⟩

/-- An entry is put behind such a row, wherever it comes to lie. -/
theorem SpE.app {m0 D : Nat} {p : Option Addr} {n cap : Nat} {w : World} (h : SpE m0 D p n cap w) (hn : n ≤ 4194304) {E : Nat} {x0 x1 x2 x3 : Value} (hE : Bk w E 33 #[x0, x1, x2, x3]) (h1 : ∀ u ∈ [x0, x1, x2, x3], u.oneCell' = true) (ty : TypeId) :
    ∃ q k c w', (Builtin.append_ #[27, 27] ty #[.slice p n cap, .slice (some ⟨E, 0, none⟩) 1 1]).run Tryz.prog w = .ok (.slice q k c) w' ∧ Wq m0 D w w' := by
  obtain ⟨i0, hi0, hz0, hz1, hz2⟩ := en_info
  have hnews : ∀ j u, [x0, x1, x2, x3][j]? = some u → w.cell? ((⟨E, 0, none⟩ : Addr).add j) = some u := by
    intro j u hu
    rw [Addr.add_lit, Nat.zero_add, hE.cell]
    simpa using hu
  obtain ⟨hle, hf⟩ := h
  rcases hf with ⟨rfl, rfl, rfl⟩ | ⟨g, o, cur, rfl, hm, hD, hg, hs⟩
  · obtain ⟨v', w', hr, how, hgr, _, _⟩ := run_append_own_at (P := Tryz.prog) w 0 27 ty 33 i0 _ 4 40 Tryz.underlying27 hi0 hz0 hz1 hz2 rfl (by decide) (.slice none 0 0) 0 [] (World.ownsRow_nil _ _ _ _) ⟨E, 0, none⟩ 1 1 [x0, x1, x2, x3] rfl hnews h1 (by unfold maxLen; omega) (by omega) (Nat.zero_le _)
    obtain ⟨q, k, c, rfl⟩ := own_slice how
    exact ⟨q, k, c, w', hr, Wq.of_below ((Below.refl _ w).grown hgr (Nat.le_refl _) (fun k hk => by cases hk))⟩
  · by_cases hroom : n + 1 ≤ cap
    · have hload := run_loadCells_list (P := Tryz.prog) w ⟨E, 0, none⟩ [x0, x1, x2, x3] hnews
      have hst := run_storeCells_at Tryz.prog g (o + n * 4) 33 [x0, x1, x2, x3] 0 cur w hg (by simp; omega) h1
      refine ⟨some ⟨g, o, none⟩, n + 1, cap, _, ?_, Wq.row hg hm hD (cur' := (cur.toList.take (o + n * 4) ++ [x0, x1, x2, x3] ++ cur.toList.drop (o + n * 4 + 4)).toArray) (by simp; omega)⟩
      have hfc := run_firstCells_some (P := Tryz.prog) w i0.size 1 ⟨E, 0, none⟩ 1 1 [x0, x1, x2, x3] (by rw [hz1]; rfl) hnews
      simp at hst
      rw [hz1] at hfc
      simp [Builtin.append_, run_underlying Tryz.underlying27, sizeOf, typeInfo, hi0, Builtin.lenOf, hroom, hfc, Addr.add_lit, hz1, hst]
    · obtain ⟨v', w', hr, how, hgr⟩ := run_append_arg_grows (P := Tryz.prog) w 27 ty 33 i0 _ 4 40 Tryz.underlying27 hi0 hz0 hz1 hz2 rfl (by decide) ⟨g, o, none⟩ n cap ((List.range (n * 4)).map fun j => cur.getD (o + j) undef) (by simp) (fun j u hu => by
        rw [List.getElem?_map] at hu
        simp only [Option.map_eq_some_iff] at hu
        obtain ⟨k, hk, rfl⟩ := hu
        have hkj : k = j ∧ j < n * 4 := by
          obtain ⟨h1, h2⟩ := List.getElem?_eq_some_iff.1 hk
          simp at h1 h2
          exact ⟨h2.symm, h1⟩
        obtain ⟨rfl, hj⟩ := hkj
        rw [Addr.add_lit, hg.cell]
        have : o + k < cur.size := by omega
        simp [this]) ⟨E, 0, none⟩ 1 1 [x0, x1, x2, x3] rfl hnews (by omega) (by unfold maxLen; omega) (by omega)
      obtain ⟨q, k, c, rfl⟩ := own_slice how
      exact ⟨q, k, c, w', hr, Wq.of_below ((Below.refl _ w).grown hgr (Nat.le_refl _) (fun k hk => by cases hk))⟩

theorem Wq.fresh {m0 D : Nat} {w w' : World} (h : Wq m0 D w w') {X : Nat} (hX : w.heap.size ≤ X) (i : Nat) (u : Value) : Wq m0 D w (w'.setCell ⟨X, i, none⟩ u) := by
  have t : Tn [X] w' (w'.setCell ⟨X, i, none⟩ u) := (Tn.refl [X] w').setCell (.inl (by simp)) u
  refine ⟨t.os.trans h.os, t.tape.trans h.tape, t.output.trans h.output, Nat.le_trans h.size t.size, fun k hk => ?_⟩
  have hkx : k ∉ [X] := by simp; omega
  have e := t.block k (Nat.lt_of_lt_of_le hk h.size) hkx
  rcases h.block k hk with h1 | ⟨h1, h2, cur, cur', h3, h4, h5⟩
  · exact .inl (e.trans h1)
  · exact .inr ⟨h1, h2, cur, cur', h3, h4.tn t hkx, h5⟩

theorem Pg.put_len (g : Pp) (e : En) : (Pg.put g e).1.l.length ≤ g.l.length + 1 := by
  unfold Pg.put
  split
  · show (Pg.putL g.l e).length ≤ _
    unfold Pg.putL
    split
    · simp
    · unfold Pg.ins
      simp
      omega
  · exact Nat.zero_le _

theorem Pg.remove_len (g : Pp) (key : ByteArray) : (Pg.remove g key).1.l.length ≤ g.l.length := by
  unfold Pg.remove
  split
  · show (Pg.del _ _).length ≤ _
    unfold Pg.del
    simp
    omega
  · exact Nat.zero_le _

theorem Pg.split_len (g : Pp) (id : Int) : (Pg.split g id).1.l.length ≤ g.l.length ∧ (Pg.split g id).2.1.l.length ≤ g.l.length := by
  unfold Pg.split
  split
  · exact ⟨Nat.zero_le _, Nat.zero_le _⟩
  · split
    · exact ⟨Nat.zero_le _, Nat.zero_le _⟩
    · cases Pg.part g.leaf (Pg.keyAt g.l (g.l.length / 2 - 1)) (Pg.keyAt g.l (g.l.length / 2)) with
      | none => exact ⟨Nat.zero_le _, Nat.zero_le _⟩
      | some m => exact ⟨by simp; omega, by simp⟩

theorem Pg.merge_len (a b : Pp) : (Pg.merge a b).1.l.length ≤ a.l.length + b.l.length := by
  unfold Pg.merge
  split
  · simp
  · exact Nat.zero_le _

/-- A page that was answered, its parts by name. -/
theorem PgAt.segs {w : World} {base : Nat} {v : Value} {g : Pp} (h : PgAt w base v g) : ∃ f lo hi r p n c l, g = ⟨f, lo, hi, r, l⟩ ∧ v = pgv f lo hi r p n c ∧ Seg w base p n c l := by
  obtain ⟨p, c, hv, hs⟩ := h
  obtain ⟨f, lo, hi, r, l⟩ := g
  exact ⟨f, lo, hi, r, p, l.length, c, l, rfl, hv, hs⟩
end Go.Proofs.YtoehlgigidgfpaaGreat

namespace Go.Proofs.YtoehlgigidgfpaaGreat
open Go.RowKit Go.Sort
set_option linter.unusedVariables false
set_option maxRecDepth 100000

theorem rows_le : ∀ (ds : List De), (∀ d ∈ ds, d.rt.l.length ≤ 1048576) → (rowsOf ds).length ≤ ds.length * 1048576
  | [], _ => by simp [rowsOf]
  | d :: r, h => by
    have h1 := rows_le r fun x hx => h x (by simp [hx])
    have h2 := h d (by simp)
    have e : rowsOf (d :: r) = d.rt.l ++ rowsOf r := by simp [rowsOf]
    rw [e, List.length_append, List.length_cons]
    omega
theorem texts_len (ds : List De) : (textsOf ds).length = ds.length * 2 := by
  induction ds with
  | nil => rfl
  | cons d r ih =>
    have e : textsOf (d :: r) = [d.key.toList, d.e.key.toList] ++ textsOf r := by simp [textsOf]
    rw [e, List.length_append, ih, List.length_cons]
    simp
    omega
theorem ents_le : ∀ (ds : List De) (pl : List En), (∀ d ∈ ds, d.rt.l.length ≤ 1048576) → (entsL pl ds).length ≤ pl.length + ds.length * 1048577
  | [], pl, _ => by simp [entsL]
  | d :: r, pl, h => by
    have h1 := ents_le r (entS pl d) fun x hx => h x (by simp [hx])
    have h2 := h d (by simp)
    have h3 := Dl.entS_le pl d
    have e : entsL pl (d :: r) = entsL (entS pl d) r := by simp [entsL]
    rw [e, List.length_cons]
    omega

theorem fit_small {pl : List En} {ds : List De} (hp : pl.length ≤ 1048576) (hd : ds.length ≤ 1048576) (h : ∀ d ∈ ds, d.rt.l.length ≤ 1048576) : Fit pl ds := by
  have h1 := rows_le ds h
  have h2 := texts_len ds
  have h3 := ents_le ds pl h
  have h4 : ds.length * 1048576 ≤ 1048576 * 1048576 := Nat.mul_le_mul_right _ hd
  have h5 : ds.length * 1048577 ≤ 1048576 * 1048577 := Nat.mul_le_mul_right _ hd
  refine ⟨by rw [List.length_append]; omega, ?_, by omega⟩
  unfold allTexts
  rw [List.length_append, List.length_map, List.length_append]
  omega

theorem fo_len {g : Pp} {ds : List De} (hp : g.l.length ≤ 1048576) (hd : ds.length ≤ 1048576) (h : ∀ d ∈ ds, d.rt.l.length ≤ 1048576) : (Dl.fo g ds).1.l.length ≤ 4611686018427387904 := by
  by_cases h0 : (Dl.fo g ds).2 = 0
  · rw [(Dl.fo_ok g ds h0).1]
    have h3 := ents_le ds g.l h
    have h5 : ds.length * 1048577 ≤ 1048576 * 1048577 := Nat.mul_le_mul_right _ hd
    omega
  · rw [Dl.fo_zero g ds h0]
    exact Nat.zero_le _
theorem apply_len {g : Pp} {d : De} (hp : g.l.length ≤ 1048576) (h : d.rt.l.length ≤ 1048576) : (Dl.apply g d).1.l.length ≤ 4611686018427387904 := by
  have e : Dl.fo g [d] = Dl.apply g d := by simp [Dl.fo, Dl.ap]
  rw [← e]
  exact fo_len hp (by simp) (by simpa using h)

theorem dlinfo : (Tryz.prog.info? 35).map (fun i => (i.zero, i.size, i.bytes)) = some (some (.agg #[.int .i64 0, .string ⟨#[]⟩, .int .i64 0, .int .i64 0, .int .i64 0, .string ⟨#[]⟩, .int .i64 0, .bool false, .string ⟨#[]⟩, .string ⟨#[]⟩, .int .i64 0, .slice none 0 0]), 12, 144) := by kernel_rfl

def dms (L : List Dm) : List Value := L.flatMap Dm.cells
theorem dms_app (a b : List Dm) : dms (a ++ b) = dms a ++ dms b := by simp [dms]
theorem dms_len (L : List Dm) : (dms L).length = L.length * 12 := by
  induction L with
  | nil => rfl
  | cons x r ih => simp only [dms, List.flatMap_cons, List.length_append, List.length_cons] at *; rw [ih]; simp [Dm.cells]; omega
theorem dms_at : ∀ (l : List Dm) (i j : Nat) (m : Dm), l[i]? = some m → j < 12 → (dms l)[i * 12 + j]? = m.cells[j]?
  | [], i, j, f, h, _ => by simp at h
  | x :: r, 0, j, f, h, hj => by
    simp at h
    subst h
    simp only [dms, List.flatMap_cons, Nat.zero_mul, Nat.zero_add]
    rw [List.getElem?_append_left (by simpa [Dm.cells] using hj)]
  | x :: r, i + 1, j, f, h, hj => by
    simp only [dms, List.flatMap_cons]
    rw [List.getElem?_append_right (by simp [Dm.cells]; omega)]
    have e : (i + 1) * 12 + j - x.cells.length = i * 12 + j := by simp [Dm.cells]; omega
    rw [e]
    exact dms_at r i j f (by simpa using h) hj
theorem dm_one (m : Dm) : ∀ u ∈ m.cells, u.oneCell' = true := by
  intro u hu
  simp only [Dm.cells, List.mem_cons, List.not_mem_nil, or_false] at hu
  rcases hu with rfl | rfl | rfl | rfl | rfl | rfl | rfl | rfl | rfl | rfl | rfl | rfl <;> rfl

theorem Seg.other {w w' : World} {base : Nat} {p : Option Addr} {len cap : Nat} {l : List En} {row : Option Nat} (h : Seg w base p len cap l) (t : w.grownBy w' row) (hS : ∀ b, row = some b → ∃ cs, Bk w b 35 cs) : Seg w' base p len cap l := by
  refine h.keep fun g o hg => ?_
  have hlt := (h.lt hg).2
  refine t.block g hlt fun e => ?_
  obtain ⟨cs, hc⟩ := hS g e.symm
  rcases h.form with ⟨hn, _⟩ | ⟨g', o', cur, hp, _, hk, _⟩
  · rw [hn] at hg; cases hg
  · rw [hp] at hg
    cases hg
    unfold Bk at hc hk
    rw [hc] at hk
    simp at hk

/-- The clones so far. -/
structure Old (w1 wr : World) (ov : Value) (j : Nat) (L L' : List Dm) : Prop where
  row : wr.ownsRow w1.heap.size 35 12 ov j (dms L')
  len : L'.length = j
  same : L'.map (·.d) = (L.take j).map (·.d)
  each : ∀ m ∈ L', m.d.rt.l.length = m.n ∧ Seg wr w1.heap.size m.p m.n m.c m.d.rt.l
  bel : Below w1.heap.size w1 wr

theorem Old.start (w1 : World) (L : List Dm) : Old w1 w1 (.slice none 0 0) 0 L [] := ⟨World.ownsRow_nil _ _ _ _, rfl, rfl, by simp, Below.refl _ _⟩

/-- One more. -/
theorem Old.next {w1 wr W w' : World} {ov v' : Value} {j : Nat} {L L' : List Dm} (h : Old w1 wr ov j L L') {m : Dm} (hm : L[j]? = some m) (hW : Below wr.heap.size wr W) {q : Option Addr} {qc base : Nat} (hb : w1.heap.size ≤ base) (hlen : m.d.rt.l.length = m.n) (ho : OwnE W base (.slice q m.n qc) m.d.rt.l)
    {o : Obj} (hr : w'.ownsRow w1.heap.size 35 12 v' (j + 1) (dms L' ++ (⟨m.d, q, m.n, qc⟩ : Dm).cells)) (hg : (W.alloc o).grownBy w' ov.ownBlock) : Old w1 w' v' (j + 1) L (L' ++ [⟨m.d, q, m.n, qc⟩]) := by
  have hrow : ∀ b, ov.ownBlock = some b → ∃ cs, Bk (W.alloc o) b 35 cs := by
    intro b hb'
    rcases h.row.2 with ⟨rfl, _⟩ | ⟨g, cap, cur, rfl, _, hg', _⟩
    · cases hb'
    · simp only [Value.ownBlock, Option.some.injEq] at hb'
      subst hb'
      have hk : Bk wr g 35 cur := hg'
      exact ⟨cur, (hk.below hW hk.lt).alloc o⟩
  have hs := h.bel.size
  have hs2 := hW.size
  refine ⟨?_, by simp [h.len], ?_, fun x hx => ?_, ?_⟩
  · rw [dms_app]
    have e : dms [(⟨m.d, q, m.n, qc⟩ : Dm)] = (⟨m.d, q, m.n, qc⟩ : Dm).cells := by simp [dms]
    rw [e]
    exact hr
  · rw [List.take_add_one, hm]
    simp [h.same]
  · rcases List.mem_append.1 hx with hx | hx
    · obtain ⟨h1, h2⟩ := h.each x hx
      exact ⟨h1, ((h2.below hW (Nat.le_refl _)).below ((Below.refl _ W).alloc (Nat.le_refl _) o) (Nat.le_refl _)).other hg hrow⟩
    · simp at hx
      subst hx
      exact ⟨hlen, ((ho.seg.mono hb).below ((Below.refl _ W).alloc (Nat.le_refl _) o) (Nat.le_refl _)).other hg hrow⟩
  · have b1 := h.bel.trans (hW.mono hs)
    have b2 : Below w1.heap.size w1 (W.alloc o) := b1.alloc b1.size o
    exact b2.grown hg b2.size fun k hk => (World.ownsRow.lt h.row k hk).1

/-- What a clone in the row is, later on. -/
theorem Old.at {w1 wr W : World} {ov : Value} {j : Nat} {L L' : List Dm} (h : Old w1 wr ov j L L') (hW : Below wr.heap.size wr W) {i : Nat} {m : Dm} (hi : i < j) (hm : L[i]? = some m) (hmn : m.d.rt.l.length = m.n) :
    ∃ G k q qc, ov = .slice (some ⟨G, 0, none⟩) j k ∧ (∀ t u, (⟨m.d, q, m.n, qc⟩ : Dm).cells[t]? = some u → W.cell? ⟨G, i * 12 + t, none⟩ = some u) ∧ Ens W q m.d.rt.l := by
  obtain ⟨m', hm'⟩ : ∃ m', L'[i]? = some m' := ⟨_, List.getElem?_eq_getElem (by rw [h.len]; exact hi)⟩
  have hd : m'.d = m.d := by
    have h1 : (L'.map (·.d))[i]? = some m'.d := by simp [hm']
    rw [h.same] at h1
    have h2 : ((L.take j).map (·.d))[i]? = some m.d := by rw [List.getElem?_map, List.getElem?_take_of_lt hi, hm]; rfl
    rw [h2] at h1
    simpa using h1.symm
  obtain ⟨e1, e2⟩ := h.each m' (List.mem_of_getElem? hm')
  obtain ⟨G, k, hv⟩ := row_some h.row (by omega)
  have hn : m'.n = m.d.rt.l.length := by rw [← e1, hd]
  have hrow := h.row
  rw [hv] at hrow
  have hlt : G < wr.heap.size := row_block hrow G rfl
  obtain ⟨dd, dp, dn, dc⟩ := m'
  simp only at hd hn e1 e2
  subst hd
  obtain rfl : dn = m.n := by rw [hn, hmn]
  refine ⟨G, k, dp, dc, hv, fun t u hu => ?_, ?_⟩
  · have ht : t < 12 := by
      have := (List.getElem?_eq_some_iff.1 hu).1
      simpa [Dm.cells] using this
    have e : W.heap[G]? = wr.heap[G]? := hW.block G hlt
    rw [World.cell?_of_block (a := ⟨G, i * 12 + t, none⟩) e, World.ownsRow.cellAt hrow (i * 12 + t) (by omega)]
    rw [dms_at L' i t _ hm' ht]
    exact hu
  · exact e2.ens.below hW (Nat.le_refl _)

end Go.Proofs.YtoehlgigidgfpaaGreat

namespace Go.Proofs.YtoehlgigidgfpaaGreat
open Go.RowKit Go.Sort
set_option linter.unusedVariables false
set_option linter.unusedSimpArgs false
set_option maxRecDepth 100000

set_option maxHeartbeats 4000000 in
theorem rbare_1 (aek : ByteArray) (aes aeg aec : Int) (akey : ByteArray) (apg : Int) (aleaf : Bool) (alo ahi : ByteArray) (ar : Int) (ap : Option Addr) (an ac : Nat) (w : World) :
    Calls Tryz.prog 68 #[.agg #[.int .i64 1, .string aek, .int .i64 aes, .int .i64 aeg, .int .i64 aec, .string akey, .int .i64 apg, .bool aleaf, .string alo, .string ahi, .int .i64 ar, .slice ap an ac]] w fun r w' => r = .returned (.tuple #[.agg #[.int .i64 1, .string aek, .int .i64 aes, .int .i64 aeg, .int .i64 aec, .string ⟨#[]⟩, .int .i64 0, .bool false, .string ⟨#[]⟩, .string ⟨#[]⟩, .int .i64 0, .slice none 0 0], .bool true]) ∧ Below w.heap.size w w' := by
  go_enter Tryz.func68, Tryz.ntmps68
  go_wp2
  refine bodyPost_ret (results_two (T' := 35) (cs := [.int .i64 1, .string aek, .int .i64 aes, .int .i64 aeg, .int .i64 aec, .string ⟨#[]⟩, .int .i64 0, .bool false, .string ⟨#[]⟩, .string ⟨#[]⟩, .int .i64 0, .slice none 0 0]) rfl rfl dl_agg dl_size rfl ((Bk.new1 _ _ _ _).alloc _)) rfl ?_
  exact ⟨rfl, (((Below.refl _ _).alloc (Nat.le_refl _) _).alloc (by simp) _).alloc (by simp; omega) _⟩

set_option maxHeartbeats 4000000 in
theorem rbare_2 (aek : ByteArray) (aes aeg aec : Int) (akey : ByteArray) (apg : Int) (aleaf : Bool) (alo ahi : ByteArray) (ar : Int) (ap : Option Addr) (an ac : Nat) (w : World) :
    Calls Tryz.prog 68 #[.agg #[.int .i64 2, .string aek, .int .i64 aes, .int .i64 aeg, .int .i64 aec, .string akey, .int .i64 apg, .bool aleaf, .string alo, .string ahi, .int .i64 ar, .slice ap an ac]] w fun r w' => r = .returned (.tuple #[.agg #[.int .i64 2, .string ⟨#[]⟩, .int .i64 0, .int .i64 0, .int .i64 0, .string akey, .int .i64 0, .bool false, .string ⟨#[]⟩, .string ⟨#[]⟩, .int .i64 0, .slice none 0 0], .bool true]) ∧ Below w.heap.size w w' := by
  go_enter Tryz.func68, Tryz.ntmps68
  go_wp2
  refine bodyPost_ret (results_two (T' := 35) (cs := [.int .i64 2, .string ⟨#[]⟩, .int .i64 0, .int .i64 0, .int .i64 0, .string akey, .int .i64 0, .bool false, .string ⟨#[]⟩, .string ⟨#[]⟩, .int .i64 0, .slice none 0 0]) rfl rfl dl_agg dl_size rfl ((Bk.new1 _ _ _ _).alloc _)) rfl ?_
  exact ⟨rfl, (((Below.refl _ _).alloc (Nat.le_refl _) _).alloc (by simp) _).alloc (by simp; omega) _⟩

set_option maxHeartbeats 4000000 in
theorem rbare_3 (aek : ByteArray) (aes aeg aec : Int) (akey : ByteArray) (apg : Int) (aleaf : Bool) (alo ahi : ByteArray) (ar : Int) (ap : Option Addr) (an ac : Nat) (w : World) :
    Calls Tryz.prog 68 #[.agg #[.int .i64 3, .string aek, .int .i64 aes, .int .i64 aeg, .int .i64 aec, .string akey, .int .i64 apg, .bool aleaf, .string alo, .string ahi, .int .i64 ar, .slice ap an ac]] w fun r w' => r = .returned (.tuple #[.agg #[.int .i64 3, .string ⟨#[]⟩, .int .i64 0, .int .i64 0, .int .i64 0, .string akey, .int .i64 apg, .bool false, .string ⟨#[]⟩, .string ⟨#[]⟩, .int .i64 0, .slice none 0 0], .bool (decide (1 ≤ apg) && !akey.toList.isEmpty)]) ∧ Below w.heap.size w w' := by
  cases h : akey.toList.isEmpty with
  | true =>
    cases hg : decide (1 ≤ apg) with
    | true =>
      go_enter Tryz.func68, Tryz.ntmps68
      go_wp2_with fail
      go_region
      go_wp2_with fail
      go_region
      go_wp2
      refine bodyPost_ret (results_two (T' := 35) (cs := [.int .i64 3, .string ⟨#[]⟩, .int .i64 0, .int .i64 0, .int .i64 0, .string akey, .int .i64 apg, .bool false, .string ⟨#[]⟩, .string ⟨#[]⟩, .int .i64 0, .slice none 0 0]) rfl rfl dl_agg dl_size rfl ((Bk.new1 _ _ _ _).alloc _)) rfl ?_
      exact ⟨by first | rfl | simp, (((((Below.refl _ _).alloc (Nat.le_refl _) _).alloc (by simp) _).alloc (by simp; omega) _).drew).drew⟩
    | false =>
      go_enter Tryz.func68, Tryz.ntmps68
      go_wp2_with fail
      go_region
      go_wp2_with fail
      go_region
      go_wp2
      refine bodyPost_ret (results_two (T' := 35) (cs := [.int .i64 3, .string ⟨#[]⟩, .int .i64 0, .int .i64 0, .int .i64 0, .string akey, .int .i64 apg, .bool false, .string ⟨#[]⟩, .string ⟨#[]⟩, .int .i64 0, .slice none 0 0]) rfl rfl dl_agg dl_size rfl ((Bk.new1 _ _ _ _).alloc _)) rfl ?_
      exact ⟨by first | rfl | simp, (((((Below.refl _ _).alloc (Nat.le_refl _) _).alloc (by simp) _).alloc (by simp; omega) _).drew).drew⟩
  | false =>
    cases hg : decide (1 ≤ apg) with
    | true =>
      go_enter Tryz.func68, Tryz.ntmps68
      go_wp2_with fail
      go_region
      go_wp2_with fail
      go_region
      go_wp2
      refine bodyPost_ret (results_two (T' := 35) (cs := [.int .i64 3, .string ⟨#[]⟩, .int .i64 0, .int .i64 0, .int .i64 0, .string akey, .int .i64 apg, .bool false, .string ⟨#[]⟩, .string ⟨#[]⟩, .int .i64 0, .slice none 0 0]) rfl rfl dl_agg dl_size rfl ((Bk.new1 _ _ _ _).alloc _)) rfl ?_
      exact ⟨by first | rfl | simp, (((((Below.refl _ _).alloc (Nat.le_refl _) _).alloc (by simp) _).alloc (by simp; omega) _).drew).drew⟩
    | false =>
      go_enter Tryz.func68, Tryz.ntmps68
      go_wp2_with fail
      go_region
      go_wp2_with fail
      go_region
      go_wp2
      refine bodyPost_ret (results_two (T' := 35) (cs := [.int .i64 3, .string ⟨#[]⟩, .int .i64 0, .int .i64 0, .int .i64 0, .string akey, .int .i64 apg, .bool false, .string ⟨#[]⟩, .string ⟨#[]⟩, .int .i64 0, .slice none 0 0]) rfl rfl dl_agg dl_size rfl ((Bk.new1 _ _ _ _).alloc _)) rfl ?_
      exact ⟨by first | rfl | simp, (((((Below.refl _ _).alloc (Nat.le_refl _) _).alloc (by simp) _).alloc (by simp; omega) _).drew).drew⟩

set_option maxHeartbeats 4000000 in
theorem rbare_4 (aek : ByteArray) (aes aeg aec : Int) (akey : ByteArray) (apg : Int) (aleaf : Bool) (alo ahi : ByteArray) (ar : Int) (ap : Option Addr) (an ac : Nat) (w : World) (t : Bool) (c : Int) (hct : (c == 0) = t) (hq : ∀ W, Below w.heap.size w W → Calls Tryz.prog 21 #[.agg #[.bool aleaf, .string alo, .string ahi, .int .i64 ar, .slice ap an ac]] W fun e w' => e = .returned (.int .i64 c) ∧ Below W.heap.size W w') :
    Calls Tryz.prog 68 #[.agg #[.int .i64 4, .string aek, .int .i64 aes, .int .i64 aeg, .int .i64 aec, .string akey, .int .i64 apg, .bool aleaf, .string alo, .string ahi, .int .i64 ar, .slice ap an ac]] w fun r w' => r = .returned (.tuple #[.agg #[.int .i64 4, .string ⟨#[]⟩, .int .i64 0, .int .i64 0, .int .i64 0, .string ⟨#[]⟩, .int .i64 0, .bool aleaf, .string alo, .string ahi, .int .i64 ar, .slice ap an ac], .bool t]) ∧ Below w.heap.size w w' := by
  have HQ : Hid _ := hq
  clear hq
  go_enter Tryz.func68, Tryz.ntmps68
  go_wp2_with fail
  obtain ⟨w0, hw0⟩ : ∃ w0, (((w.alloc (.cells #[.int .i64 4, .string aek, .int .i64 aes, .int .i64 aeg, .int .i64 aec, .string akey, .int .i64 apg, .bool aleaf, .string alo, .string ahi, .int .i64 ar, .slice ap an ac] 35)).alloc (.cells #[.int .i64 0, .string ⟨#[]⟩, .int .i64 0, .int .i64 0, .int .i64 0, .string ⟨#[]⟩, .int .i64 0, .bool false, .string ⟨#[]⟩, .string ⟨#[]⟩, .int .i64 0, .slice none 0 0] 35)).alloc (.cells #[.int .i64 4, .string ⟨#[]⟩, .int .i64 0, .int .i64 0, .int .i64 0, .string ⟨#[]⟩, .int .i64 0, .bool aleaf, .string alo, .string ahi, .int .i64 ar, .slice ap an ac] 35)) = w0 := ⟨_, rfl⟩
  have hs0 : Bk w0.drew w.heap.size 35 #[.int .i64 4, .string aek, .int .i64 aes, .int .i64 aeg, .int .i64 aec, .string akey, .int .i64 apg, .bool aleaf, .string alo, .string ahi, .int .i64 ar, .slice ap an ac] ∧ Bk w0.drew (w.heap.size + 1 + 1) 35 #[.int .i64 4, .string ⟨#[]⟩, .int .i64 0, .int .i64 0, .int .i64 0, .string ⟨#[]⟩, .int .i64 0, .bool aleaf, .string alo, .string ahi, .int .i64 ar, .slice ap an ac] ∧ Below w.heap.size w w0.drew := by
    rw [← hw0]
    exact ⟨(((Bk.new _ _ _).alloc _).alloc _).drew, (Bk.new2 _ _ _ _ _).drew, ((((Below.refl _ _).alloc (Nat.le_refl _) _).alloc (by simp) _).alloc (by simp; omega) _).drew⟩
  have hz0 : Bk w0.drew (w.heap.size + 1) 35 #[.int .i64 0, .string ⟨#[]⟩, .int .i64 0, .int .i64 0, .int .i64 0, .string ⟨#[]⟩, .int .i64 0, .bool false, .string ⟨#[]⟩, .string ⟨#[]⟩, .int .i64 0, .slice none 0 0] := by rw [← hw0]; exact ((Bk.new1 _ _ _ _).alloc _).drew
  rw [hw0]
  clear hw0
  refine wp_region_mid (S := (fun w' => Bk w' w.heap.size 35 #[.int .i64 4, .string aek, .int .i64 aes, .int .i64 aeg, .int .i64 aec, .string akey, .int .i64 apg, .bool aleaf, .string alo, .string ahi, .int .i64 ar, .slice ap an ac] ∧ Bk w' (w.heap.size + 1 + 1) 35 #[.int .i64 4, .string ⟨#[]⟩, .int .i64 0, .int .i64 0, .int .i64 0, .string ⟨#[]⟩, .int .i64 0, .bool aleaf, .string alo, .string ahi, .int .i64 ar, .slice ap an ac] ∧ Below w.heap.size w w')) 7 (by kernel_rfl) ?_
  refine wpAnyM_take (i := 0) [] (oi := { dst := some 43, op := Op.load 35 (Operand.tmp 4), type := 35, pos := _, after := #[], guard := none }) (v := .agg #[.int .i64 4, .string ⟨#[]⟩, .int .i64 0, .int .i64 0, .int .i64 0, .string ⟨#[]⟩, .int .i64 0, .bool aleaf, .string alo, .string ahi, .int .i64 ar, .slice ap an ac]) rfl (by kernel_rfl) (by kernel_rfl) (by kernel_rfl) (by kernel_rfl) (fun _ _ _ h => h) (Or.inl ⟨by rfl, ?_⟩) hs0 ?_
  · (intro w' hSw; have m0 : w'.cell? ⟨w.heap.size, 0, none⟩ = some (.int .i64 4) := hSw.1.cell 0; have m1 : w'.cell? ⟨w.heap.size, 1, none⟩ = some (.string aek) := hSw.1.cell 1; have m2 : w'.cell? ⟨w.heap.size, 2, none⟩ = some (.int .i64 aes) := hSw.1.cell 2; have m3 : w'.cell? ⟨w.heap.size, 3, none⟩ = some (.int .i64 aeg) := hSw.1.cell 3; have m4 : w'.cell? ⟨w.heap.size, 4, none⟩ = some (.int .i64 aec) := hSw.1.cell 4; have m5 : w'.cell? ⟨w.heap.size, 5, none⟩ = some (.string akey) := hSw.1.cell 5; have m6 : w'.cell? ⟨w.heap.size, 6, none⟩ = some (.int .i64 apg) := hSw.1.cell 6; have m7 : w'.cell? ⟨w.heap.size, 7, none⟩ = some (.bool aleaf) := hSw.1.cell 7; have m8 : w'.cell? ⟨w.heap.size, 8, none⟩ = some (.string alo) := hSw.1.cell 8; have m9 : w'.cell? ⟨w.heap.size, 9, none⟩ = some (.string ahi) := hSw.1.cell 9; have m10 : w'.cell? ⟨w.heap.size, 10, none⟩ = some (.int .i64 ar) := hSw.1.cell 10; have m11 : w'.cell? ⟨w.heap.size, 11, none⟩ = some (.slice ap an ac) := hSw.1.cell 11; have n0 : w'.cell? ⟨w.heap.size + 1 + 1, 0, none⟩ = some (.int .i64 4) := hSw.2.1.cell 0; have n1 : w'.cell? ⟨w.heap.size + 1 + 1, 1, none⟩ = some (.string ⟨#[]⟩) := hSw.2.1.cell 1; have n2 : w'.cell? ⟨w.heap.size + 1 + 1, 2, none⟩ = some (.int .i64 0) := hSw.2.1.cell 2; have n3 : w'.cell? ⟨w.heap.size + 1 + 1, 3, none⟩ = some (.int .i64 0) := hSw.2.1.cell 3; have n4 : w'.cell? ⟨w.heap.size + 1 + 1, 4, none⟩ = some (.int .i64 0) := hSw.2.1.cell 4; have n5 : w'.cell? ⟨w.heap.size + 1 + 1, 5, none⟩ = some (.string ⟨#[]⟩) := hSw.2.1.cell 5; have n6 : w'.cell? ⟨w.heap.size + 1 + 1, 6, none⟩ = some (.int .i64 0) := hSw.2.1.cell 6; have n7 : w'.cell? ⟨w.heap.size + 1 + 1, 7, none⟩ = some (.bool aleaf) := hSw.2.1.cell 7; have n8 : w'.cell? ⟨w.heap.size + 1 + 1, 8, none⟩ = some (.string alo) := hSw.2.1.cell 8; have n9 : w'.cell? ⟨w.heap.size + 1 + 1, 9, none⟩ = some (.string ahi) := hSw.2.1.cell 9; have n10 : w'.cell? ⟨w.heap.size + 1 + 1, 10, none⟩ = some (.int .i64 ar) := hSw.2.1.cell 10; have n11 : w'.cell? ⟨w.heap.size + 1 + 1, 11, none⟩ = some (.slice ap an ac) := hSw.2.1.cell 11; go_simp; try with_reducible rfl)
  try simp only [Act.put, List.setIfInBounds_toArray, List.set_cons_zero, List.set_cons_succ]
  refine wpAnyM_take (i := 1) [] (oi := { dst := some 44, op := Op.fieldAddr 35 (Operand.tmp 1) 4, type := 0, pos := _, after := #[], guard := none }) (v := .pointer (some ⟨w.heap.size, 7, none⟩)) rfl (by kernel_rfl) (by kernel_rfl) (by kernel_rfl) (by kernel_rfl) (fun _ _ _ h => h) (Or.inl ⟨by rfl, ?_⟩) hs0 ?_
  · (intro w' hSw; go_simp; try with_reducible rfl)
  try simp only [Act.put, List.setIfInBounds_toArray, List.set_cons_zero, List.set_cons_succ]
  refine wpAnyM_take (i := 2) [] (oi := { dst := some 45, op := Op.load 29 (Operand.tmp 44), type := 29, pos := _, after := #[{ on := 1, ground := Ground.data }], guard := none }) (v := .agg #[.bool aleaf, .string alo, .string ahi, .int .i64 ar, .slice ap an ac]) rfl (by kernel_rfl) (by kernel_rfl) (by kernel_rfl) (by kernel_rfl) (fun _ _ _ h => h) (Or.inl ⟨by rfl, ?_⟩) hs0 ?_
  · (intro w' hSw; have m0 : w'.cell? ⟨w.heap.size, 0, none⟩ = some (.int .i64 4) := hSw.1.cell 0; have m1 : w'.cell? ⟨w.heap.size, 1, none⟩ = some (.string aek) := hSw.1.cell 1; have m2 : w'.cell? ⟨w.heap.size, 2, none⟩ = some (.int .i64 aes) := hSw.1.cell 2; have m3 : w'.cell? ⟨w.heap.size, 3, none⟩ = some (.int .i64 aeg) := hSw.1.cell 3; have m4 : w'.cell? ⟨w.heap.size, 4, none⟩ = some (.int .i64 aec) := hSw.1.cell 4; have m5 : w'.cell? ⟨w.heap.size, 5, none⟩ = some (.string akey) := hSw.1.cell 5; have m6 : w'.cell? ⟨w.heap.size, 6, none⟩ = some (.int .i64 apg) := hSw.1.cell 6; have m7 : w'.cell? ⟨w.heap.size, 7, none⟩ = some (.bool aleaf) := hSw.1.cell 7; have m8 : w'.cell? ⟨w.heap.size, 8, none⟩ = some (.string alo) := hSw.1.cell 8; have m9 : w'.cell? ⟨w.heap.size, 9, none⟩ = some (.string ahi) := hSw.1.cell 9; have m10 : w'.cell? ⟨w.heap.size, 10, none⟩ = some (.int .i64 ar) := hSw.1.cell 10; have m11 : w'.cell? ⟨w.heap.size, 11, none⟩ = some (.slice ap an ac) := hSw.1.cell 11; have n0 : w'.cell? ⟨w.heap.size + 1 + 1, 0, none⟩ = some (.int .i64 4) := hSw.2.1.cell 0; have n1 : w'.cell? ⟨w.heap.size + 1 + 1, 1, none⟩ = some (.string ⟨#[]⟩) := hSw.2.1.cell 1; have n2 : w'.cell? ⟨w.heap.size + 1 + 1, 2, none⟩ = some (.int .i64 0) := hSw.2.1.cell 2; have n3 : w'.cell? ⟨w.heap.size + 1 + 1, 3, none⟩ = some (.int .i64 0) := hSw.2.1.cell 3; have n4 : w'.cell? ⟨w.heap.size + 1 + 1, 4, none⟩ = some (.int .i64 0) := hSw.2.1.cell 4; have n5 : w'.cell? ⟨w.heap.size + 1 + 1, 5, none⟩ = some (.string ⟨#[]⟩) := hSw.2.1.cell 5; have n6 : w'.cell? ⟨w.heap.size + 1 + 1, 6, none⟩ = some (.int .i64 0) := hSw.2.1.cell 6; have n7 : w'.cell? ⟨w.heap.size + 1 + 1, 7, none⟩ = some (.bool aleaf) := hSw.2.1.cell 7; have n8 : w'.cell? ⟨w.heap.size + 1 + 1, 8, none⟩ = some (.string alo) := hSw.2.1.cell 8; have n9 : w'.cell? ⟨w.heap.size + 1 + 1, 9, none⟩ = some (.string ahi) := hSw.2.1.cell 9; have n10 : w'.cell? ⟨w.heap.size + 1 + 1, 10, none⟩ = some (.int .i64 ar) := hSw.2.1.cell 10; have n11 : w'.cell? ⟨w.heap.size + 1 + 1, 11, none⟩ = some (.slice ap an ac) := hSw.2.1.cell 11; go_simp; try with_reducible rfl)
  try simp only [Act.put, List.setIfInBounds_toArray, List.set_cons_zero, List.set_cons_succ]
  refine wpAnyM_ready (rs := [3]) (by kernel_rfl) (by simp) ?_
  refine AllReadyM.cons (o := { dst := some 46, op := Op.call { callee := Callee.value (Operand.func 21), args := #[Operand.tmp 45], argTypes := #[29] }, type := 24, pos := _, after := #[{ on := 2, ground := Ground.data }], guard := none }) rfl (fun K hK => ?_) AllReadyM.nil
  have HK9 : Hid (∀ a w, _ → K a w) := hK
  clear hK
  go_simp
  refine (HQ.out _ hs0.2.2).mono ?_
  rintro e w1 ⟨rfl, hb⟩
  have hs1 : Bk w1 w.heap.size 35 #[.int .i64 4, .string aek, .int .i64 aes, .int .i64 aeg, .int .i64 aec, .string akey, .int .i64 apg, .bool aleaf, .string alo, .string ahi, .int .i64 ar, .slice ap an ac] ∧ Bk w1 (w.heap.size + 1 + 1) 35 #[.int .i64 4, .string ⟨#[]⟩, .int .i64 0, .int .i64 0, .int .i64 0, .string ⟨#[]⟩, .int .i64 0, .bool aleaf, .string alo, .string ahi, .int .i64 ar, .slice ap an ac] ∧ Below w.heap.size w w1 := ⟨hs0.1.below hb hs0.1.lt, hs0.2.1.below hb hs0.2.1.lt, hs0.2.2.trans (hb.mono hs0.2.2.size)⟩
  have hz1 := hz0.below hb hz0.lt
  clear hb
  refine HK9.out _ _ ⟨fun _ => hs1, ?_⟩
  clear HK9 K
  try simp only [Act.put, List.setIfInBounds_toArray, List.set_cons_zero, List.set_cons_succ]
  refine wpAnyM_take (i := 4) [] (oi := { dst := some 47, op := Op.binOp BinOp.eql 24 (Operand.tmp 46) (Operand.const (Value.int IntKind.i64 0)) 24, type := 4, pos := _, after := #[{ on := 3, ground := Ground.data }, { on := 5, ground := Ground.gcOnly Departure.lateStores }], guard := none }) (v := .bool t) rfl (by kernel_rfl) (by kernel_rfl) (by kernel_rfl) (by kernel_rfl) (fun _ _ _ h => h) (Or.inl ⟨by rfl, ?_⟩) hs1 ?_
  · (intro w' hSw; go_simp; try with_reducible rfl)
  try simp only [Act.put, List.setIfInBounds_toArray, List.set_cons_zero, List.set_cons_succ]
  have z0 : w1.cell? ⟨w.heap.size + 1, 0, none⟩ = some (.int .i64 0) := hz1.cell 0
  have zf0 : w1.frozen? ⟨w.heap.size + 1, 0, none⟩ = false := hz1.frozen 0
  have z1 : w1.cell? ⟨w.heap.size + 1, 1, none⟩ = some (.string ⟨#[]⟩) := hz1.cell 1
  have zf1 : w1.frozen? ⟨w.heap.size + 1, 1, none⟩ = false := hz1.frozen 1
  have z2 : w1.cell? ⟨w.heap.size + 1, 2, none⟩ = some (.int .i64 0) := hz1.cell 2
  have zf2 : w1.frozen? ⟨w.heap.size + 1, 2, none⟩ = false := hz1.frozen 2
  have z3 : w1.cell? ⟨w.heap.size + 1, 3, none⟩ = some (.int .i64 0) := hz1.cell 3
  have zf3 : w1.frozen? ⟨w.heap.size + 1, 3, none⟩ = false := hz1.frozen 3
  have z4 : w1.cell? ⟨w.heap.size + 1, 4, none⟩ = some (.int .i64 0) := hz1.cell 4
  have zf4 : w1.frozen? ⟨w.heap.size + 1, 4, none⟩ = false := hz1.frozen 4
  have z5 : w1.cell? ⟨w.heap.size + 1, 5, none⟩ = some (.string ⟨#[]⟩) := hz1.cell 5
  have zf5 : w1.frozen? ⟨w.heap.size + 1, 5, none⟩ = false := hz1.frozen 5
  have z6 : w1.cell? ⟨w.heap.size + 1, 6, none⟩ = some (.int .i64 0) := hz1.cell 6
  have zf6 : w1.frozen? ⟨w.heap.size + 1, 6, none⟩ = false := hz1.frozen 6
  have z7 : w1.cell? ⟨w.heap.size + 1, 7, none⟩ = some (.bool false) := hz1.cell 7
  have zf7 : w1.frozen? ⟨w.heap.size + 1, 7, none⟩ = false := hz1.frozen 7
  have z8 : w1.cell? ⟨w.heap.size + 1, 8, none⟩ = some (.string ⟨#[]⟩) := hz1.cell 8
  have zf8 : w1.frozen? ⟨w.heap.size + 1, 8, none⟩ = false := hz1.frozen 8
  have z9 : w1.cell? ⟨w.heap.size + 1, 9, none⟩ = some (.string ⟨#[]⟩) := hz1.cell 9
  have zf9 : w1.frozen? ⟨w.heap.size + 1, 9, none⟩ = false := hz1.frozen 9
  have z10 : w1.cell? ⟨w.heap.size + 1, 10, none⟩ = some (.int .i64 0) := hz1.cell 10
  have zf10 : w1.frozen? ⟨w.heap.size + 1, 10, none⟩ = false := hz1.frozen 10
  have z11 : w1.cell? ⟨w.heap.size + 1, 11, none⟩ = some (.slice none 0 0) := hz1.cell 11
  have zf11 : w1.frozen? ⟨w.heap.size + 1, 11, none⟩ = false := hz1.frozen 11
  refine wpAnyM_ready (rs := [5]) (by kernel_rfl) (by simp) ?_
  refine AllReadyM.cons (o := { dst := none, op := Op.store 35 (Operand.tmp 2) (Operand.tmp 43), type := 0, pos := _, after := #[{ on := 0, ground := Ground.data }, { on := 3, ground := Ground.chain }, { on := 0, ground := Ground.phase }, { on := 1, ground := Ground.textOnly Departure.lateStores }, { on := 2, ground := Ground.textOnly Departure.lateStores }, { on := 3, ground := Ground.textOnly Departure.lateStoresUnsure }, { on := 4, ground := Ground.textOnly Departure.lateStores }], guard := none }) rfl (fun K hK => ?_) AllReadyM.nil
  have HK9 : Hid (∀ a w, _ → K a w) := hK
  clear hK
  go_simp
  clear z0 zf0 z1 zf1 z2 zf2 z3 zf3 z4 zf4 z5 zf5 z6 zf6 z7 zf7 z8 zf8 z9 zf9 z10 zf10 z11 zf11
  have k1 := hz1.twelve (.int .i64 4) (.string ⟨#[]⟩) (.int .i64 0) (.int .i64 0) (.int .i64 0) (.string ⟨#[]⟩) (.int .i64 0) (.bool aleaf) (.string alo) (.string ahi) (.int .i64 ar) (.slice ap an ac)
  have ht : Tn [w.heap.size + 1] w1 _ := (Tn.refl _ w1).twelve (R := w.heap.size + 1) (.inl (by simp)) (.int .i64 4) (.string ⟨#[]⟩) (.int .i64 0) (.int .i64 0) (.int .i64 0) (.string ⟨#[]⟩) (.int .i64 0) (.bool aleaf) (.string alo) (.string ahi) (.int .i64 ar) (.slice ap an ac)
  have hbe := hs1.2.2.trans (ht.below hs1.2.2.size (by simp))
  obtain ⟨w2, hw2, k1, hbe, hs2⟩ : ∃ w2, ((((((((((((w1.setCell ⟨w.heap.size + 1, 0, none⟩ (.int .i64 4)).setCell ⟨w.heap.size + 1, 1, none⟩ (.string ⟨#[]⟩)).setCell ⟨w.heap.size + 1, 2, none⟩ (.int .i64 0)).setCell ⟨w.heap.size + 1, 3, none⟩ (.int .i64 0)).setCell ⟨w.heap.size + 1, 4, none⟩ (.int .i64 0)).setCell ⟨w.heap.size + 1, 5, none⟩ (.string ⟨#[]⟩)).setCell ⟨w.heap.size + 1, 6, none⟩ (.int .i64 0)).setCell ⟨w.heap.size + 1, 7, none⟩ (.bool aleaf)).setCell ⟨w.heap.size + 1, 8, none⟩ (.string alo)).setCell ⟨w.heap.size + 1, 9, none⟩ (.string ahi)).setCell ⟨w.heap.size + 1, 10, none⟩ (.int .i64 ar)).setCell ⟨w.heap.size + 1, 11, none⟩ (.slice ap an ac)) = w2 ∧ Bk w2 (w.heap.size + 1) 35 #[.int .i64 4, .string ⟨#[]⟩, .int .i64 0, .int .i64 0, .int .i64 0, .string ⟨#[]⟩, .int .i64 0, .bool aleaf, .string alo, .string ahi, .int .i64 ar, .slice ap an ac] ∧ Below w.heap.size w w2 ∧ (Bk w2 w.heap.size 35 #[.int .i64 4, .string aek, .int .i64 aes, .int .i64 aeg, .int .i64 aec, .string akey, .int .i64 apg, .bool aleaf, .string alo, .string ahi, .int .i64 ar, .slice ap an ac] ∧ Bk w2 (w.heap.size + 1 + 1) 35 #[.int .i64 4, .string ⟨#[]⟩, .int .i64 0, .int .i64 0, .int .i64 0, .string ⟨#[]⟩, .int .i64 0, .bool aleaf, .string alo, .string ahi, .int .i64 ar, .slice ap an ac] ∧ Below w.heap.size w w2) := ⟨_, rfl, k1, hbe, hs1.1.tn ht (by simp), hs1.2.1.tn ht (by simp), hbe⟩
  rw [hw2]
  clear hw2 ht
  refine HK9.out _ _ ⟨fun _ => hs2, ?_⟩
  clear HK9 K
  try simp only [Act.put, List.setIfInBounds_toArray, List.set_cons_zero, List.set_cons_succ]
  refine wpAnyM_ready (rs := [6]) (by kernel_rfl) (by simp) ?_
  refine AllReadyM.cons (o := { dst := some 3, op := Op.assign (Operand.tmp 47), type := 4, pos := _, after := #[{ on := 4, ground := Ground.data }, { on := 5, ground := Ground.chain }, { on := 0, ground := Ground.phase }, { on := 1, ground := Ground.phase }, { on := 2, ground := Ground.phase }, { on := 3, ground := Ground.phase }, { on := 4, ground := Ground.phase }, { on := 5, ground := Ground.phase }], guard := none }) rfl (fun K hK => ?_) AllReadyM.nil
  have HK9 : Hid (∀ a w, _ → K a w) := hK
  clear hK
  go_simp
  refine HK9.out _ _ ⟨fun _ => hs2, ?_⟩
  clear HK9 K
  try simp only [Act.put, List.setIfInBounds_toArray, List.set_cons_zero, List.set_cons_succ]
  refine wpAnyM_done (by kernel_rfl) ?_ _
  have HK1 : Hid _ := k1
  have HBE : Hid _ := hbe
  clear k1 hbe hs0 hs1 hs2 hz0 hz1 HQ hct
  go_wp2
  refine bodyPost_ret (results_two (T' := 35) (cs := [.int .i64 4, .string ⟨#[]⟩, .int .i64 0, .int .i64 0, .int .i64 0, .string ⟨#[]⟩, .int .i64 0, .bool aleaf, .string alo, .string ahi, .int .i64 ar, .slice ap an ac]) rfl rfl dl_agg dl_size rfl HK1.out) rfl ?_
  exact ⟨rfl, HBE.out⟩

set_option maxHeartbeats 4000000 in
theorem rbare_5 (aek : ByteArray) (aes aeg aec : Int) (akey : ByteArray) (apg : Int) (aleaf : Bool) (alo ahi : ByteArray) (ar : Int) (ap : Option Addr) (an ac : Nat) (w : World) :
    Calls Tryz.prog 68 #[.agg #[.int .i64 5, .string aek, .int .i64 aes, .int .i64 aeg, .int .i64 aec, .string akey, .int .i64 apg, .bool aleaf, .string alo, .string ahi, .int .i64 ar, .slice ap an ac]] w fun r w' => r = .returned (.tuple #[.agg #[.int .i64 5, .string ⟨#[]⟩, .int .i64 0, .int .i64 0, .int .i64 0, .string ⟨#[]⟩, .int .i64 apg, .bool false, .string ⟨#[]⟩, .string ⟨#[]⟩, .int .i64 0, .slice none 0 0], .bool (decide (1 ≤ apg))]) ∧ Below w.heap.size w w' := by
  go_enter Tryz.func68, Tryz.ntmps68
  go_wp2_with fail
  go_region
  go_wp2
  refine bodyPost_ret (results_two (T' := 35) (cs := [.int .i64 5, .string ⟨#[]⟩, .int .i64 0, .int .i64 0, .int .i64 0, .string ⟨#[]⟩, .int .i64 apg, .bool false, .string ⟨#[]⟩, .string ⟨#[]⟩, .int .i64 0, .slice none 0 0]) rfl rfl dl_agg dl_size rfl ((Bk.new1 _ _ _ _).alloc _)) rfl ?_
  exact ⟨by simp, ((((Below.refl _ _).alloc (Nat.le_refl _) _).alloc (by simp) _).alloc (by simp; omega) _).drew⟩

set_option maxHeartbeats 4000000 in
theorem rbare_0 (ak : Int) (k1 : (ak == 1) = false) (k2 : (ak == 2) = false) (k3 : (ak == 3) = false) (k4 : (ak == 4) = false) (k5 : (ak == 5) = false) (aek : ByteArray) (aes aeg aec : Int) (akey : ByteArray) (apg : Int) (aleaf : Bool) (alo ahi : ByteArray) (ar : Int) (ap : Option Addr) (an ac : Nat) (w : World) :
    Calls Tryz.prog 68 #[.agg #[.int .i64 ak, .string aek, .int .i64 aes, .int .i64 aeg, .int .i64 aec, .string akey, .int .i64 apg, .bool aleaf, .string alo, .string ahi, .int .i64 ar, .slice ap an ac]] w fun r w' => r = .returned (.tuple #[.agg #[.int .i64 ak, .string ⟨#[]⟩, .int .i64 0, .int .i64 0, .int .i64 0, .string ⟨#[]⟩, .int .i64 0, .bool false, .string ⟨#[]⟩, .string ⟨#[]⟩, .int .i64 0, .slice none 0 0], .bool false]) ∧ Below w.heap.size w w' := by
  go_enter Tryz.func68, Tryz.ntmps68
  go_wp2
  refine bodyPost_ret (results_two (T' := 35) (cs := [.int .i64 ak, .string ⟨#[]⟩, .int .i64 0, .int .i64 0, .int .i64 0, .string ⟨#[]⟩, .int .i64 0, .bool false, .string ⟨#[]⟩, .string ⟨#[]⟩, .int .i64 0, .slice none 0 0]) rfl rfl dl_agg dl_size rfl ((Bk.new1 _ _ _ _).alloc _)) rfl ?_
  exact ⟨rfl, (((Below.refl _ _).alloc (Nat.le_refl _) _).alloc (by simp) _).alloc (by simp; omega) _⟩

theorem rbare_any (a : De) (ap : Option Addr) (an ac : Nat) (w : World) (hna : a.rt.l.length = an) (ha : Ens w ap a.rt.l) (hl : an ≤ 4398046511104) :
    Calls Tryz.prog 68 #[dlv a.k a.e a.key a.pg a.rt.leaf a.rt.lo a.rt.hi a.rt.r ap an ac] w fun r w' => r = .returned (.tuple #[Dl.nv a ap an ac, .bool (Dl.fits a)]) ∧ Below w.heap.size w w' := by
  obtain ⟨ak, ⟨aek, aes, aeg, aec⟩, akey, apg, ⟨aleaf, alo, ahi, ar, al⟩⟩ := a
  simp only at *
  by_cases h1 : ak = 1
  · subst h1
    exact rbare_1 aek aes aeg aec akey apg aleaf alo ahi ar ap an ac w
  · by_cases h2 : ak = 2
    · subst h2
      exact rbare_2 aek aes aeg aec akey apg aleaf alo ahi ar ap an ac w
    · by_cases h3 : ak = 3
      · subst h3
        have := rbare_3 aek aes aeg aec akey apg aleaf alo ahi ar ap an ac w
        rw [Bool.and_comm] at this
        exact this
      · by_cases h4 : ak = 4
        · subst h4
          have hq := fun (W : World) (h : Below w.heap.size w W) => rcheck_any aleaf alo ahi ar ap an ac al W hna (ha.below h (Nat.le_refl _)) hl
          exact rbare_4 aek aes aeg aec akey apg aleaf alo ahi ar ap an ac w (Pg.may aleaf ⟨alo, ahi⟩ ar al) _ (by cases Pg.may aleaf ⟨alo, ahi⟩ ar al <;> rfl) hq
        · by_cases h5 : ak = 5
          · subst h5
            exact rbare_5 aek aes aeg aec akey apg aleaf alo ahi ar ap an ac w
          · have := rbare_0 ak (by simp [h1]) (by simp [h2]) (by simp [h3]) (by simp [h4]) (by simp [h5]) aek aes aeg aec akey apg aleaf alo ahi ar ap an ac w
            unfold Dl.nv Dl.named Dl.fits
            simp only [h1, h2, h3, h4, h5, if_false]
            exact this

theorem Pg.same_comm (a b : Pp) : Pg.same a b = Pg.same b a := by
  have h1 : Pg.eqL a.l b.l = Pg.eqL b.l a.l := by
    rw [Bool.eq_iff_iff, Pg.eqL_iff, Pg.eqL_iff]
    exact ⟨Eq.symm, Eq.symm⟩
  unfold Pg.same
  rw [h1, Bool.beq_comm (a := a.leaf), Bool.beq_comm (a := a.lo.toList), Bool.beq_comm (a := a.hi.toList), Bool.beq_comm (a := a.r)]

theorem Dl.same_comm (a b : De) : Dl.same a b = Dl.same b a := by
  have h1 : En.eqb a.e b.e = En.eqb b.e a.e := by
    rw [Bool.eq_iff_iff, En.eqb_iff, En.eqb_iff]
    exact ⟨Eq.symm, Eq.symm⟩
  unfold Dl.same
  rw [Pg.same_comm, h1, Bool.beq_comm (a := a.k), Bool.beq_comm (a := a.key.toList), Bool.beq_comm (a := a.pg)]

set_option maxHeartbeats 2000000 in
theorem rdcheck_any (a : De) (ap : Option Addr) (an ac : Nat) (w : World) (hna : a.rt.l.length = an) (ha : Ens w ap a.rt.l) (hl : an ≤ 4398046511104) :
    Calls Tryz.prog 28 #[dlv a.k a.e a.key a.pg a.rt.leaf a.rt.lo a.rt.hi a.rt.r ap an ac] w fun r w' => r = .returned (.int .i64 (if Dl.may a then 0 else 90)) ∧ Below w.heap.size w w' := by
  have hq := fun (W : World) (h : Below w.heap.size w W) => rbare_any a ap an ac W hna (ha.below h (Nat.le_refl _)) hl
  have hs := fun (W : World) (h : Below w.heap.size w W) => drsame_any (Dl.named a) a (if a.k = 4 then ap else none) ap (if a.k = 4 then an else 0) an (if a.k = 4 then ac else 0) ac W (Dl.named_len hna) hna (Dl.named_ens (ha.below h (Nat.le_refl _))) (ha.below h (Nat.le_refl _)) (by split <;> omega)
  rw [Dl.same_comm] at hs
  obtain ⟨v, HM⟩ : ∃ v : Int, Hid ((if (Dl.same a (Dl.named a) && Dl.fits a) then 0 else 90 : Int) = v) := ⟨_, rfl⟩
  rw [show (if Dl.may a then 0 else 90 : Int) = v from HM.out]
  generalize Dl.same a (Dl.named a) = s at *
  generalize Dl.fits a = t at *
  unfold Dl.nv at hq
  obtain ⟨⟨nk, ⟨nek, nes, neg, nec⟩, nkey, npg, ⟨nleaf, nlo, nhi, nr, nl⟩⟩, hn⟩ : ∃ n, Dl.named a = n := ⟨_, rfl⟩
  rw [hn] at hq hs
  clear hn
  obtain ⟨np, hnp⟩ : ∃ np, (if a.k = 4 then ap else none) = np := ⟨_, rfl⟩
  obtain ⟨nn, hnn⟩ : ∃ nn, (if a.k = 4 then an else 0) = nn := ⟨_, rfl⟩
  obtain ⟨nc, hnc⟩ : ∃ nc, (if a.k = 4 then ac else 0) = nc := ⟨_, rfl⟩
  rw [hnp, hnn, hnc] at hq hs
  clear hnp hnn hnc
  have HQ : Hid _ := hq
  have HS : Hid _ := hs
  clear hq hs ha hna
  obtain ⟨ak, ⟨aek, aes, aeg, aec⟩, akey, apg, ⟨aleaf, alo, ahi, ar, al⟩⟩ := a
  simp only at *
  obtain ⟨w0, hw0⟩ : ∃ w0, w.alloc (.cells #[.int .i64 ak, .string aek, .int .i64 aes, .int .i64 aeg, .int .i64 aec, .string akey, .int .i64 apg, .bool aleaf, .string alo, .string ahi, .int .i64 ar, .slice ap an ac] 35) = w0 := ⟨_, rfl⟩
  have HB0 : Hid (Below w.heap.size w w0) := by rw [← hw0]; exact (Below.refl _ _).alloc (Nat.le_refl _) _
  have HK0 : Hid (Bk w0 w.heap.size 35 #[.int .i64 ak, .string aek, .int .i64 aes, .int .i64 aeg, .int .i64 aec, .string akey, .int .i64 apg, .bool aleaf, .string alo, .string ahi, .int .i64 ar, .slice ap an ac]) := by rw [← hw0]; exact Bk.new _ _ _
  have a0 : w0.cell? ⟨w.heap.size, 0, none⟩ = some (.int .i64 ak) := HK0.out.cell 0
  have a1 : w0.cell? ⟨w.heap.size, 1, none⟩ = some (.string aek) := HK0.out.cell 1
  have a2 : w0.cell? ⟨w.heap.size, 2, none⟩ = some (.int .i64 aes) := HK0.out.cell 2
  have a3 : w0.cell? ⟨w.heap.size, 3, none⟩ = some (.int .i64 aeg) := HK0.out.cell 3
  have a4 : w0.cell? ⟨w.heap.size, 4, none⟩ = some (.int .i64 aec) := HK0.out.cell 4
  have a5 : w0.cell? ⟨w.heap.size, 5, none⟩ = some (.string akey) := HK0.out.cell 5
  have a6 : w0.cell? ⟨w.heap.size, 6, none⟩ = some (.int .i64 apg) := HK0.out.cell 6
  have a7 : w0.cell? ⟨w.heap.size, 7, none⟩ = some (.bool aleaf) := HK0.out.cell 7
  have a8 : w0.cell? ⟨w.heap.size, 8, none⟩ = some (.string alo) := HK0.out.cell 8
  have a9 : w0.cell? ⟨w.heap.size, 9, none⟩ = some (.string ahi) := HK0.out.cell 9
  have a10 : w0.cell? ⟨w.heap.size, 10, none⟩ = some (.int .i64 ar) := HK0.out.cell 10
  have a11 : w0.cell? ⟨w.heap.size, 11, none⟩ = some (.slice ap an ac) := HK0.out.cell 11
  go_enter Tryz.func28, Tryz.ntmps28
  go_wp2_with fail
  refine (HQ.out _ HB0.out).mono ?_
  rintro e w1 ⟨rfl, hb1⟩
  clear a0 a1 a2 a3 a4 a5 a6 a7 a8 a9 a10 a11
  have HB1 : Hid (Below w.heap.size w w1) := HB0.out.trans (hb1.mono HB0.out.size)
  have HK1 : Hid (Bk w1 w.heap.size 35 #[.int .i64 ak, .string aek, .int .i64 aes, .int .i64 aeg, .int .i64 aec, .string akey, .int .i64 apg, .bool aleaf, .string alo, .string ahi, .int .i64 ar, .slice ap an ac]) := HK0.out.below hb1 HK0.out.lt
  clear hb1 hw0 HK0 HB0 HQ
  obtain ⟨w2, hw2⟩ : ∃ w2, w1.alloc (.cells #[.int .i64 nk, .string nek, .int .i64 nes, .int .i64 neg, .int .i64 nec, .string nkey, .int .i64 npg, .bool nleaf, .string nlo, .string nhi, .int .i64 nr, .slice np nn nc] 35) = w2 := ⟨_, rfl⟩
  have hb2 : Below w1.heap.size w1 w2 := by rw [← hw2]; exact (Below.refl _ _).alloc (Nat.le_refl _) _
  have HB2 : Hid (Below w.heap.size w w2) := HB1.out.trans (hb2.mono HB1.out.size)
  have HK2 : Hid (Bk w2 w.heap.size 35 #[.int .i64 ak, .string aek, .int .i64 aes, .int .i64 aeg, .int .i64 aec, .string akey, .int .i64 apg, .bool aleaf, .string alo, .string ahi, .int .i64 ar, .slice ap an ac]) := HK1.out.below hb2 HK1.out.lt
  have HN2 : Hid (Bk w2 w1.heap.size 35 #[.int .i64 nk, .string nek, .int .i64 nes, .int .i64 neg, .int .i64 nec, .string nkey, .int .i64 npg, .bool nleaf, .string nlo, .string nhi, .int .i64 nr, .slice np nn nc]) := by rw [← hw2]; exact Bk.new _ _ _
  clear hb2 HB1 HK1
  have a0 : w2.cell? ⟨w.heap.size, 0, none⟩ = some (.int .i64 ak) := HK2.out.cell 0
  have a1 : w2.cell? ⟨w.heap.size, 1, none⟩ = some (.string aek) := HK2.out.cell 1
  have a2 : w2.cell? ⟨w.heap.size, 2, none⟩ = some (.int .i64 aes) := HK2.out.cell 2
  have a3 : w2.cell? ⟨w.heap.size, 3, none⟩ = some (.int .i64 aeg) := HK2.out.cell 3
  have a4 : w2.cell? ⟨w.heap.size, 4, none⟩ = some (.int .i64 aec) := HK2.out.cell 4
  have a5 : w2.cell? ⟨w.heap.size, 5, none⟩ = some (.string akey) := HK2.out.cell 5
  have a6 : w2.cell? ⟨w.heap.size, 6, none⟩ = some (.int .i64 apg) := HK2.out.cell 6
  have a7 : w2.cell? ⟨w.heap.size, 7, none⟩ = some (.bool aleaf) := HK2.out.cell 7
  have a8 : w2.cell? ⟨w.heap.size, 8, none⟩ = some (.string alo) := HK2.out.cell 8
  have a9 : w2.cell? ⟨w.heap.size, 9, none⟩ = some (.string ahi) := HK2.out.cell 9
  have a10 : w2.cell? ⟨w.heap.size, 10, none⟩ = some (.int .i64 ar) := HK2.out.cell 10
  have a11 : w2.cell? ⟨w.heap.size, 11, none⟩ = some (.slice ap an ac) := HK2.out.cell 11
  have n0 : w2.cell? ⟨w1.heap.size, 0, none⟩ = some (.int .i64 nk) := HN2.out.cell 0
  have n1 : w2.cell? ⟨w1.heap.size, 1, none⟩ = some (.string nek) := HN2.out.cell 1
  have n2 : w2.cell? ⟨w1.heap.size, 2, none⟩ = some (.int .i64 nes) := HN2.out.cell 2
  have n3 : w2.cell? ⟨w1.heap.size, 3, none⟩ = some (.int .i64 neg) := HN2.out.cell 3
  have n4 : w2.cell? ⟨w1.heap.size, 4, none⟩ = some (.int .i64 nec) := HN2.out.cell 4
  have n5 : w2.cell? ⟨w1.heap.size, 5, none⟩ = some (.string nkey) := HN2.out.cell 5
  have n6 : w2.cell? ⟨w1.heap.size, 6, none⟩ = some (.int .i64 npg) := HN2.out.cell 6
  have n7 : w2.cell? ⟨w1.heap.size, 7, none⟩ = some (.bool nleaf) := HN2.out.cell 7
  have n8 : w2.cell? ⟨w1.heap.size, 8, none⟩ = some (.string nlo) := HN2.out.cell 8
  have n9 : w2.cell? ⟨w1.heap.size, 9, none⟩ = some (.string nhi) := HN2.out.cell 9
  have n10 : w2.cell? ⟨w1.heap.size, 10, none⟩ = some (.int .i64 nr) := HN2.out.cell 10
  have n11 : w2.cell? ⟨w1.heap.size, 11, none⟩ = some (.slice np nn nc) := HN2.out.cell 11
  cases t with
  | false =>
    have HF : Hid (v = 90) := by rw [Hid, ← HM.out, Bool.and_false]; rfl
    go_wp2
    go_ret
    exact ⟨by rw [HF.out]; rfl, HB2.out⟩
  | true =>
    go_wp2_with fail
    refine (HS.out _ HB2.out).mono ?_
    rintro e w3 ⟨rfl, hb3⟩
    have HB3 : Hid (Below w.heap.size w w3) := HB2.out.trans (hb3.mono HB2.out.size)
    clear hb3 hw2
    clear a0 a1 a2 a3 a4 a5 a6 a7 a8 a9 a10 a11
    clear n0 n1 n2 n3 n4 n5 n6 n7 n8 n9 n10 n11
    cases s with
    | false =>
      have HF : Hid (v = 90) := HM.out.symm
      go_wp2
      go_ret
      exact ⟨by rw [HF.out]; rfl, HB3.out⟩
    | true =>
      have HF : Hid (v = 0) := HM.out.symm
      go_wp2
      go_ret
      exact ⟨by rw [HF.out]; rfl, HB3.out⟩

end Go.Proofs.YtoehlgigidgfpaaGreat

namespace Go.Proofs.YtoehlgigidgfpaaGreat
open Go.ChangeShapes Go.WideShapes Go.ChangeAt Go.RowKit Go.Shelf
open Go.ChangeMaps (open_string shut_string)
set_option linter.unusedVariables false
set_option linter.unusedSimpArgs false
set_option maxRecDepth 100000

/-- What the loop keeps: an arena with a chain that grows. -/
structure Pak [Inhabited Nod] (m : Nat) (w1 W : World) (B n : Nat) (gb : Nat) (ql : List En) (j : Nat) (a : Ar Nod) (lv : List Nat) (s g : Int) (Ls : List Nod) (k : Nat) (X : Nod) : Prop where
  chs : Chs m W B a lv [gb]
  chn : ChnN a s g Ls
  len : Ls.length = k + 1
  last : Ls[k]? = some X
  row : X.P.g.l = ql
  kj : k ≤ j
  each : ∀ d ∈ ((Ls.take k).map (·.D.d)).reverse, d.rt.l.length ≤ 1048576
  long : (slAt a.us s.toNat).val.long = (k : Int)
  live : live a.us = k + 1
  size : a.size = n + 2
  gens : Gens a.us ((k : Int) + 1)
  gbk : Bk W gb 31 #[.int .i64 s, .int .i64 g]
  below : Below m w1 W
  ge : m ≤ gb ∧ m ≤ W.heap.size

theorem chn_hd [Inhabited Nod] {a : Ar Nod} {s g : Int} {L : List Nod} (h : ChnN a s g L) : a.Good s g := by
  cases L with
  | nil => exact h.elim
  | cons x r => exact h.head.1

theorem Pak.grow [Inhabited Nod] {m : Nat} {w1 W : World} {B n gb : Nat} {ql : List En} {j : Nat} {a : Ar Nod} {lv : List Nat} {s g : Int} {Ls : List Nod} {k : Nat} {X : Nod} (h : Pak m w1 W B n gb ql j a lv s g Ls k X)
    {W1 W7 W9 : World} {d : De} {q : Option Addr} {qc : Nat} {bs : List Nat} (ht1 : Tn [] W W1) (hA : Afc m W1 W7 B (a.put (dnd d q qc s g ((k : Int) + 1))) (bs ++ lv) [gb]) (hd : d.rt.l.length ≤ 1048576) (ht9 : Tn [gb] W7 W9) (hg : Bk W9 gb 31 #[.int .i64 (low a.us : Nat), .int .i64 a.gen]) :
    Pak m w1 W9 B n gb ql (j + 1) (a.put (dnd d q qc s g ((k : Int) + 1))) (bs ++ lv) (low a.us : Nat) a.gen (dnd d q qc s g ((k : Int) + 1) :: Ls) (k + 1) X := by
  obtain ⟨q1, q2⟩ := h.ge
  exact {
    chs := hA.chs.other ht9 (by simp)
    chn := h.chn.grown _ rfl rfl rfl
    len := by rw [List.length_cons, h.len]
    last := by rw [List.getElem?_cons_succ]; exact h.last
    row := h.row
    kj := by have := h.kj; omega
    each := by
      intro x hx
      rw [List.take_succ_cons, List.map_cons, List.reverse_cons, List.mem_append] at hx
      rcases hx with hx | hx
      · exact h.each x hx
      · simp only [List.mem_cons, List.not_mem_nil, or_false] at hx
        subst hx
        exact hd
    long := by
      rw [Int.toNat_natCast, (put_new a _).1]
      simp
    live := by rw [live_put, h.live]
    size := h.size
    gens := by
      have := Gens.put h.gens (by omega) (dnd d q qc s g ((k : Int) + 1))
      exact this.mono (by omega)
    gbk := hg
    below := ((h.below.trans (ht1.below q2 (by simp))).trans hA.below).trans (ht9.below (by have := hA.below.size; have := ht1.size; omega) (by simp; exact q1))
    ge := ⟨q1, by have := hA.below.size; have := ht1.size; have := ht9.size; omega⟩ }

theorem Pak.skip [Inhabited Nod] {m : Nat} {w1 W : World} {B n gb : Nat} {ql : List En} {j : Nat} {a : Ar Nod} {lv : List Nat} {s g : Int} {Ls : List Nod} {k : Nat} {X : Nod} (h : Pak m w1 W B n gb ql j a lv s g Ls k X)
    {W8 : World} (ht : Tn [] W W8) : Pak m w1 W8 B n gb ql (j + 1) a lv s g Ls k X := by
  obtain ⟨q1, q2⟩ := h.ge
  exact {
    chs := h.chs.quiet ht, chn := h.chn, len := h.len, last := h.last, row := h.row, kj := by (have := h.kj; omega), each := h.each, long := h.long, live := h.live, size := h.size, gens := h.gens
    gbk := h.gbk.tn ht (by simp)
    below := h.below.trans (ht.below q2 (by simp))
    ge := ⟨q1, by have := ht.size; omega⟩ }

theorem fo_len4 {g : Pp} {ds : List De} (hp : g.l.length ≤ 1048576) (hd : ds.length ≤ 1048576) (h : ∀ d ∈ ds, d.rt.l.length ≤ 1048576) : (Dl.fo g ds).1.l.length ≤ 2000000000000 := by
  by_cases h0 : (Dl.fo g ds).2 = 0
  · rw [(Dl.fo_ok g ds h0).1]
    have h3 := ents_le ds g.l h
    have h5 : ds.length * 1048577 ≤ 1048576 * 1048577 := Nat.mul_le_mul_right _ hd
    omega
  · rw [Dl.fo_zero g ds h0]
    exact Nat.zero_le _

theorem fit_none {pl : List En} (h : pl.length ≤ 2000000000000) : Fit pl [] := ⟨by simp [rowsOf]; omega, by simp [allTexts, textsOf, rowsOf]; omega, by simp [entsL]; omega⟩

theorem frs_live [Inhabited Nod] : ∀ (l : List Hd) (a : Ar Nod), (∀ y ∈ l, a.Good y.1 y.2) → (l.map (·.1)).Nodup → live (frs a l).us + l.length = live a.us
  | [], _, _, _ => rfl
  | y :: l, a, hl, hd => by
    have hy := hl y (by simp)
    have hlt : y.1.toNat < a.us.length := by have := hy.1; have := hy.2.1; omega
    rw [List.map_cons, List.nodup_cons] at hd
    have h1 := frs_live l (a.free y.1.toNat Nod.zero) (fun z hz => free_other hlt _ (hl z (by simp [hz])) (fun e => hd.1 (by
      have h1 := (hl z (by simp [hz])).1
      have h2 := hy.1
      have e2 : z.1 = y.1 := by omega
      rw [← e2]
      exact List.mem_map.2 ⟨z, hz, rfl⟩))) hd.2
    have h2 := free_live hlt Nod.zero hy.2.2.1
    show live (frs (a.free y.1.toNat Nod.zero) l).us + (l.length + 1) = _
    omega

set_option maxHeartbeats 16000000 in
theorem packs_inh [Inhabited Nod] (qf : Bool) (qlo qhi : ByteArray) (qr : Int) (qp : Option Addr) (qn qc : Nat) (ql : List En) (lp : Option Addr) (ln lc : Nat) (L : List Dm) (w : World) (hq : InE 1048576 w qp qn qc ql) (hl : InDs w lp ln lc L) :
    Calls Tryz.prog 5 #[pgv qf qlo qhi qr qp qn qc, .slice lp ln lc] w fun e w' => e = .returned (.bool true) ∧ Below w.heap.size w w' := by
  have HQ : Hid (InE 1048576 w qp qn qc ql) := hq
  have HL : Hid (InDs w lp ln lc L) := hl
  have hle : ln ≤ lc := hl.le
  have hrm : ln ≤ 1048576 := hl.room
  clear hq hl
  obtain ⟨w0, hw0⟩ : ∃ w0, w.alloc (.cells (pgc qf qlo qhi qr qp qn qc) 29) = w0 := ⟨_, rfl⟩
  have HT0 : Hid (Tn [] w w0) := by rw [← hw0]; exact (Tn.refl _ _).alloc _
  have HB0 : Hid (Bk w0 w.heap.size 29 (pgc qf qlo qhi qr qp qn qc)) := by rw [← hw0]; exact Bk.new _ _ _
  go_enter Tryz.func5, Tryz.ntmps5
  go_wp2_with fail
  obtain ⟨n, hn⟩ : ∃ n : Nat, n = min ln 60 := ⟨_, rfl⟩
  have hn60 : n ≤ 60 := by omega
  have hnl : n ≤ ln := by omega
  have e1 : max (min (ln : Int) 60) 0 = (n : Int) := by omega
  have e2 : (min (ln : Int) 60).toNat = n := by omega
  have e3 : (n : Int) + 2 = ((n + 2 : Nat) : Int) := by omega
  rw [e1, e2, e3]
  clear e1 e2 e3 hn
  clear hw0
  refine (newSN w0 (n + 2) (by omega) (by omega)).mono ?_
  rintro e w1 ⟨rfl, ha1, hb1, hs1⟩
  have HC1 : Hid (Chs w0.heap.size w1 w0.heap.size (Ar.fresh (n + 2)) [] []) := Chs.fresh ha1
  have HB1 : Hid (Below w0.heap.size w0 w1) := hb1
  have HPX : Hid (∀ W, Below w0.heap.size w0 W → Bk W w.heap.size 29 (pgc qf qlo qhi qr qp qn qc) ∧ Ens W qp ql ∧ Des W lp L ∧ Below w.heap.size w W) := fun W hW => by
    have hb := (HT0.out.below (Nat.le_refl _) (by simp)).trans (hW.mono HT0.out.size)
    exact ⟨HB0.out.below hW HB0.out.lt, HQ.out.ens.below hb (Nat.le_refl _), HL.out.des.below hb (Nat.le_refl _), hb⟩
  clear ha1 hb1 hs1
  go_wp2_with fail
  refine (live_any' w1).mono ?_
  rintro e w4 ⟨rfl, hb4⟩
  have HC4 : Hid (Chs w0.heap.size w4 w0.heap.size (Ar.fresh (n + 2)) [] []) := HC1.out.below hb4
  have HB4 : Hid (Below w0.heap.size w0 w4) := HB1.out.trans (hb4.mono HB1.out.size)
  have kq := (HPX.out w4 HB4.out).1
  have a0 : w4.cell? ⟨w.heap.size, 0, none⟩ = some (.bool qf) := kq.cell 0
  have a1 : w4.cell? ⟨w.heap.size, 1, none⟩ = some (.string qlo) := kq.cell 1
  have a2 : w4.cell? ⟨w.heap.size, 2, none⟩ = some (.string qhi) := kq.cell 2
  have a3 : w4.cell? ⟨w.heap.size, 3, none⟩ = some (.int .i64 qr) := kq.cell 3
  have a4 : w4.cell? ⟨w.heap.size, 4, none⟩ = some (.slice qp qn qc) := kq.cell 4
  clear hb4 kq
  go_wp2_with fail
  refine (begin_gen HC4.out qf qlo qhi qr qp qn qc ql HQ.out.lenq (HPX.out w4 HB4.out).2.1 (by have := HQ.out.room; omega) (fun h => (HQ.out.nil h).1) (by rw [fresh_live]; show 0 < n + 2; omega) (by rw [fresh_gen]; omega) (by rw [fresh_gen]; omega)).mono ?_
  rintro e w5 ⟨s2, g2, ar2, bs2, rfl, hA5, hy5, hn5⟩
  clear a0 a1 a2 a3 a4
  obtain ⟨w6, hw6⟩ : ∃ w6, w5.alloc (.cells #[.int .i64 s2, .int .i64 g2] 31) = w6 := ⟨_, rfl⟩
  have HT6 : Hid (Tn [] w5 w6) := by rw [← hw6]; exact (Tn.refl _ _).alloc _
  have HC6 : Hid (Chs w0.heap.size w6 w0.heap.size ar2 (bs2 ++ []) ([w5.heap.size] ++ [])) := hA5.chs.more HT6.out [] [w5.heap.size] (by simp) (fun x hx => by
    simp only [List.mem_cons, List.not_mem_nil, or_false] at hx
    subst hx
    rw [← hw6]
    simp) (by simp)
  have HB6 : Hid (Below w0.heap.size w0 w6) := (HB4.out.trans hA5.below).trans (HT6.out.below hA5.chs.ge (by simp))
  have HK6 : Hid (Bk w6 w5.heap.size 31 #[.int .i64 s2, .int .i64 g2] ∧ w0.heap.size ≤ w5.heap.size) := by
    rw [← hw6]
    exact ⟨Bk.new _ _ _, hA5.chs.ge⟩
  have HY5 : Hid ((Pg.may qf ⟨qlo, qhi⟩ qr ql = true → ∃ q qc, s2 = low (Ar.fresh (n + 2) : Ar Nod).us ∧ g2 = (Ar.fresh (n + 2) : Ar Nod).gen ∧ ar2 = (Ar.fresh (n + 2)).put (bnd ⟨qf, qlo, qhi, qr, ql⟩ q qc)) ∧ (¬ Pg.may qf ⟨qlo, qhi⟩ qr ql = true → ar2 = Ar.fresh (n + 2))) := ⟨hy5, hn5⟩
  clear hA5 hy5 hn5
  generalize hcq : (if Pg.may qf ⟨qlo, qhi⟩ qr ql = true then (0 : Int) else 70) = cq
  have HCQ : Hid ((if Pg.may qf ⟨qlo, qhi⟩ qr ql = true then (0 : Int) else 70) = cq) := hcq
  clear hcq
  by_cases hz : cq = 0
  · obtain rfl := hz
    have hmq : Pg.may qf ⟨qlo, qhi⟩ qr ql = true := by
      have := HCQ.out
      split at this
      · assumption
      · cases this
    obtain ⟨q8, c8, hs2, hg2, har2⟩ := HY5.out.1 hmq
    have HST : Hid (Pak w0.heap.size w0 w6 w0.heap.size n w5.heap.size ql 0 ar2 (bs2 ++ []) s2 g2 [bnd ⟨qf, qlo, qhi, qr, ql⟩ q8 c8] 0 (bnd ⟨qf, qlo, qhi, qr, ql⟩ q8 c8)) := {
        chs := HC6.out
        chn := by rw [hs2, hg2, har2]; exact ChnN.begun _ _ rfl
        len := rfl
        last := rfl
        row := rfl
        kj := Nat.le_refl _
        each := fun d hd => by cases hd
        long := by rw [har2, hs2, Int.toNat_natCast, (put_new _ _).1]; rfl
        live := by rw [har2, live_put, fresh_live]
        size := by rw [har2]; rfl
        gens := by rw [har2]; exact (show Gens _ (0 + 1) from Gens.put (Gens.nil 0) (by omega) _)
        gbk := HK6.out.1
        below := HB6.out
        ge := ⟨HK6.out.2, HB6.out.size⟩ }
    clear hs2 hg2 har2 hmq
    go_wp2_with fail
    clear hw6
    go_loopw [52] (fun i wr => ∃ (j : Nat) (a : Ar Nod) (lv : List Nat) (s g : Int) (Ls : List Nod) (k : Nat) (X : Nod), j ≤ n ∧ i = .int .i64 (j : Int) ∧ Hid (Pak w0.heap.size w0 wr w0.heap.size n w5.heap.size ql j a lv s g Ls k X)) (fun i _ => n - (intOf i).toNat)
    case atStart => exact ⟨0, _, _, _, _, _, _, _, Nat.zero_le _, rfl, HST.out⟩
    case round =>
      obtain ⟨j, a, lv, s, g, Ls, k, X, hj, rfl, HS⟩ := hrel
      by_cases hlt : j < n
      · have hli : (j : Int) < (n : Int) := by omega
        have hj0 : (0 : Int) ≤ (j : Int) := by omega
        obtain ⟨b, o, rfl, hc⟩ := (HPX.out wr HS.out.below).2.2.1 (by rw [HL.out.lenq]; omega)
        have hjL : j < L.length := by rw [HL.out.lenq]; omega
        obtain ⟨dm, hdm⟩ : ∃ dm, L[j]? = some dm := ⟨_, List.getElem?_eq_getElem hjL⟩
        obtain ⟨hcd, hok⟩ := hc j dm hdm
        have HOK : Hid (dm.Ok wr ∧ dm.n ≤ 1048576) := ⟨hok, HL.out.each dm (List.mem_of_getElem? hdm)⟩
        have c0 : wr.cell? ⟨b, o + j * 12, none⟩ = some (.int .i64 dm.d.k) := hcd 0 _ rfl
        have c1 : wr.cell? ⟨b, o + j * 12 + 1, none⟩ = some (.string dm.d.e.key) := hcd 1 _ rfl
        have c2 : wr.cell? ⟨b, o + j * 12 + 2, none⟩ = some (.int .i64 dm.d.e.s) := hcd 2 _ rfl
        have c3 : wr.cell? ⟨b, o + j * 12 + 3, none⟩ = some (.int .i64 dm.d.e.g) := hcd 3 _ rfl
        have c4 : wr.cell? ⟨b, o + j * 12 + 4, none⟩ = some (.int .i64 dm.d.e.c) := hcd 4 _ rfl
        have c5 : wr.cell? ⟨b, o + j * 12 + 5, none⟩ = some (.string dm.d.key) := hcd 5 _ rfl
        have c6 : wr.cell? ⟨b, o + j * 12 + 6, none⟩ = some (.int .i64 dm.d.pg) := hcd 6 _ rfl
        have c7 : wr.cell? ⟨b, o + j * 12 + 7, none⟩ = some (.bool dm.d.rt.leaf) := hcd 7 _ rfl
        have c8 : wr.cell? ⟨b, o + j * 12 + 8, none⟩ = some (.string dm.d.rt.lo) := hcd 8 _ rfl
        have c9 : wr.cell? ⟨b, o + j * 12 + 9, none⟩ = some (.string dm.d.rt.hi) := hcd 9 _ rfl
        have c10 : wr.cell? ⟨b, o + j * 12 + 10, none⟩ = some (.int .i64 dm.d.rt.r) := hcd 10 _ rfl
        have c11 : wr.cell? ⟨b, o + j * 12 + 11, none⟩ = some (.slice dm.p dm.n dm.c) := hcd 11 _ rfl
        obtain ⟨wa, hwa⟩ : ∃ wa, wr.alloc (.cells #[.int .i64 dm.d.k, .string dm.d.e.key, .int .i64 dm.d.e.s, .int .i64 dm.d.e.g, .int .i64 dm.d.e.c, .string dm.d.key, .int .i64 dm.d.pg, .bool dm.d.rt.leaf, .string dm.d.rt.lo, .string dm.d.rt.hi, .int .i64 dm.d.rt.r, .slice dm.p dm.n dm.c] 35) = wa := ⟨_, rfl⟩
        have HTA : Hid (Tn [] wr wa) := by rw [← hwa]; exact (Tn.refl _ _).alloc _
        have kb : Bk wa wr.heap.size 35 #[.int .i64 dm.d.k, .string dm.d.e.key, .int .i64 dm.d.e.s, .int .i64 dm.d.e.g, .int .i64 dm.d.e.c, .string dm.d.key, .int .i64 dm.d.pg, .bool dm.d.rt.leaf, .string dm.d.rt.lo, .string dm.d.rt.hi, .int .i64 dm.d.rt.r, .slice dm.p dm.n dm.c] := by rw [← hwa]; exact Bk.new _ _ _
        have kg : Bk wa w5.heap.size 31 #[.int .i64 s, .int .i64 g] := HS.out.gbk.tn HTA.out (by simp)
        have d0 : wa.cell? ⟨wr.heap.size, 0, none⟩ = some (.int .i64 dm.d.k) := kb.cell 0; have d1 : wa.cell? ⟨wr.heap.size, 1, none⟩ = some (.string dm.d.e.key) := kb.cell 1; have d2 : wa.cell? ⟨wr.heap.size, 2, none⟩ = some (.int .i64 dm.d.e.s) := kb.cell 2; have d3 : wa.cell? ⟨wr.heap.size, 3, none⟩ = some (.int .i64 dm.d.e.g) := kb.cell 3; have d4 : wa.cell? ⟨wr.heap.size, 4, none⟩ = some (.int .i64 dm.d.e.c) := kb.cell 4; have d5 : wa.cell? ⟨wr.heap.size, 5, none⟩ = some (.string dm.d.key) := kb.cell 5; have d6 : wa.cell? ⟨wr.heap.size, 6, none⟩ = some (.int .i64 dm.d.pg) := kb.cell 6; have d7 : wa.cell? ⟨wr.heap.size, 7, none⟩ = some (.bool dm.d.rt.leaf) := kb.cell 7; have d8 : wa.cell? ⟨wr.heap.size, 8, none⟩ = some (.string dm.d.rt.lo) := kb.cell 8; have d9 : wa.cell? ⟨wr.heap.size, 9, none⟩ = some (.string dm.d.rt.hi) := kb.cell 9; have d10 : wa.cell? ⟨wr.heap.size, 10, none⟩ = some (.int .i64 dm.d.rt.r) := kb.cell 10; have d11 : wa.cell? ⟨wr.heap.size, 11, none⟩ = some (.slice dm.p dm.n dm.c) := kb.cell 11
        have h0 : wa.cell? ⟨w5.heap.size, 0, none⟩ = some (.int .i64 s) := kg.cell 0
        have h1 : wa.cell? ⟨w5.heap.size, 1, none⟩ = some (.int .i64 g) := kg.cell 1
        clear hc hcd hok hdm kb kg hjL
        go_wp2_with fail
        clear c0 c1 c2 c3 c4 c5 c6 c7 c8 c9 c10 c11
        by_cases hm : Dl.may dm.d = true
        · refine (grow_gen (HS.out.chs.quiet HTA.out) s g (chn_hd HS.out.chn) dm.d dm.p dm.n dm.c HOK.out.1.len (HOK.out.1.ens.below (HTA.out.below (Nat.le_refl _) (by simp)) (Nat.le_refl _)) (by have := HOK.out.2; omega) (fun h => (HOK.out.1.nil h).1) (by rw [HS.out.long]; have := HS.out.kj; omega) (by rw [HS.out.live, HS.out.size]; have := HS.out.kj; omega) (HS.out.gens.gen (by omega)).1 (by have := (HS.out.gens.gen (by omega)).2; have := HS.out.kj; omega)).mono ?_
          rintro e w7 ⟨s', g', a', bs, rfl, hA7, hy7, hn7⟩
          clear h0 h1 d0 d1 d2 d3 d4 d5 d6 d7 d8 d9 d10 d11 hwa
          obtain ⟨w8, hw8⟩ : ∃ w8, w7.alloc (.cells #[.int .i64 s', .int .i64 g'] 31) = w8 := ⟨_, rfl⟩
          have HT8 : Hid (Tn [] w7 w8) := by rw [← hw8]; exact (Tn.refl _ _).alloc _
          have kx : Bk w8 w7.heap.size 31 #[.int .i64 s', .int .i64 g'] := by rw [← hw8]; exact Bk.new _ _ _
          have kg : Bk w8 w5.heap.size 31 #[.int .i64 s, .int .i64 g] := (show Bk w7 w5.heap.size _ _ from (hA7.same w5.heap.size (by simp)).trans (HS.out.gbk.tn HTA.out (by simp))).tn HT8.out (by simp)
          have HG8 : Hid (Bk w8 w5.heap.size 31 #[.int .i64 s, .int .i64 g]) := kg
          have x0 : w8.cell? ⟨w7.heap.size, 0, none⟩ = some (.int .i64 s') := kx.cell 0
          have x1 : w8.cell? ⟨w7.heap.size, 1, none⟩ = some (.int .i64 g') := kx.cell 1
          have e0 : w8.cell? ⟨w5.heap.size, 0, none⟩ = some (.int .i64 s) := kg.cell 0
          have e1 : w8.cell? ⟨w5.heap.size, 1, none⟩ = some (.int .i64 g) := kg.cell 1
          have f0 := kg.frozen 0
          have f1 := kg.frozen 1
          rw [if_pos hm]
          have HN : Hid (∃ (a' : Ar Nod) (lv : List Nat) (Ls : List Nod) (k : Nat) (X : Nod), Pak w0.heap.size w0 ((w8.setCell ⟨w5.heap.size, 0, none⟩ (.int .i64 s')).setCell ⟨w5.heap.size, 1, none⟩ (.int .i64 g')) w0.heap.size n w5.heap.size ql (j + 1) a' lv s' g' Ls k X) := by
            obtain ⟨q, qc, rfl, rfl, rfl⟩ := hy7 hm
            rw [HS.out.long] at hA7
            exact ⟨_, _, _, _, _, HS.out.grow HTA.out hA7 (by rw [HOK.out.1.len]; exact HOK.out.2) ((((HT8.out.mono (T := [w5.heap.size]) (by simp)).setCell (.inl (by simp)) _).setCell (.inl (by simp)) _)) ((HG8.out.set 0 _).set 1 _)⟩
          clear hA7 hy7 hn7 kx kg
          go_wp2
          obtain ⟨a9, lv9, Ls9, k9, X9, hN9⟩ := HN.out
          go_roundw
          case rel => exact ⟨j + 1, a9, lv9, s', g', Ls9, k9, X9, by omega, by go_num, hN9⟩
          case measure => simp [intOf]; omega
        · refine (grow_no (HS.out.chs.quiet HTA.out) s g dm.d dm.p dm.n dm.c HOK.out.1.len (HOK.out.1.ens.below (HTA.out.below (Nat.le_refl _) (by simp)) (Nat.le_refl _)) (by have := HOK.out.2; omega) hm).mono ?_
          rintro e w7 ⟨rfl, ht7⟩
          have HKB : Hid (∀ W, Tn [] w7 W → Bk W wr.heap.size 35 #[.int .i64 dm.d.k, .string dm.d.e.key, .int .i64 dm.d.e.s, .int .i64 dm.d.e.g, .int .i64 dm.d.e.c, .string dm.d.key, .int .i64 dm.d.pg, .bool dm.d.rt.leaf, .string dm.d.rt.lo, .string dm.d.rt.hi, .int .i64 dm.d.rt.r, .slice dm.p dm.n dm.c]) := fun W hW => by
            have kb : Bk wa wr.heap.size 35 #[.int .i64 dm.d.k, .string dm.d.e.key, .int .i64 dm.d.e.s, .int .i64 dm.d.e.g, .int .i64 dm.d.e.c, .string dm.d.key, .int .i64 dm.d.pg, .bool dm.d.rt.leaf, .string dm.d.rt.lo, .string dm.d.rt.hi, .int .i64 dm.d.rt.r, .slice dm.p dm.n dm.c] := by rw [← hwa]; exact Bk.new _ _ _
            exact (kb.tn ht7 (by simp)).tn hW (by simp)
          have HTW : Hid (Tn [] wr w7) := HTA.out.trans ht7 (by simp)
          clear h0 h1 d0 d1 d2 d3 d4 d5 d6 d7 d8 d9 d10 d11 hwa
          have kb := HKB.out (w7.alloc (.cells #[.int .i64 0, .int .i64 0] 31)) ((Tn.refl _ _).alloc _)
          have d0 : (w7.alloc (.cells #[.int .i64 0, .int .i64 0] 31)).cell? ⟨wr.heap.size, 0, none⟩ = some (.int .i64 dm.d.k) := kb.cell 0; have d1 : (w7.alloc (.cells #[.int .i64 0, .int .i64 0] 31)).cell? ⟨wr.heap.size, 1, none⟩ = some (.string dm.d.e.key) := kb.cell 1; have d2 : (w7.alloc (.cells #[.int .i64 0, .int .i64 0] 31)).cell? ⟨wr.heap.size, 2, none⟩ = some (.int .i64 dm.d.e.s) := kb.cell 2; have d3 : (w7.alloc (.cells #[.int .i64 0, .int .i64 0] 31)).cell? ⟨wr.heap.size, 3, none⟩ = some (.int .i64 dm.d.e.g) := kb.cell 3; have d4 : (w7.alloc (.cells #[.int .i64 0, .int .i64 0] 31)).cell? ⟨wr.heap.size, 4, none⟩ = some (.int .i64 dm.d.e.c) := kb.cell 4; have d5 : (w7.alloc (.cells #[.int .i64 0, .int .i64 0] 31)).cell? ⟨wr.heap.size, 5, none⟩ = some (.string dm.d.key) := kb.cell 5; have d6 : (w7.alloc (.cells #[.int .i64 0, .int .i64 0] 31)).cell? ⟨wr.heap.size, 6, none⟩ = some (.int .i64 dm.d.pg) := kb.cell 6; have d7 : (w7.alloc (.cells #[.int .i64 0, .int .i64 0] 31)).cell? ⟨wr.heap.size, 7, none⟩ = some (.bool dm.d.rt.leaf) := kb.cell 7; have d8 : (w7.alloc (.cells #[.int .i64 0, .int .i64 0] 31)).cell? ⟨wr.heap.size, 8, none⟩ = some (.string dm.d.rt.lo) := kb.cell 8; have d9 : (w7.alloc (.cells #[.int .i64 0, .int .i64 0] 31)).cell? ⟨wr.heap.size, 9, none⟩ = some (.string dm.d.rt.hi) := kb.cell 9; have d10 : (w7.alloc (.cells #[.int .i64 0, .int .i64 0] 31)).cell? ⟨wr.heap.size, 10, none⟩ = some (.int .i64 dm.d.rt.r) := kb.cell 10; have d11 : (w7.alloc (.cells #[.int .i64 0, .int .i64 0] 31)).cell? ⟨wr.heap.size, 11, none⟩ = some (.slice dm.p dm.n dm.c) := kb.cell 11
          clear kb ht7
          go_wp2_with fail
          have hck := rdcheck_any dm.d dm.p dm.n dm.c (w7.alloc (.cells #[.int .i64 0, .int .i64 0] 31)) HOK.out.1.len (HOK.out.1.ens.below ((HTW.out.alloc _).below (Nat.le_refl _) (by simp)) (Nat.le_refl _)) (by have := HOK.out.2; omega)
          rw [if_neg hm] at hck
          refine hck.mono ?_
          rintro e w8 ⟨rfl, hb8⟩
          have HT8 : Hid (Tn [] wr w8) := (HTW.out.alloc _).trans (Tn.of_below hb8 []) (by simp)
          clear hck hb8 d0 d1 d2 d3 d4 d5 d6 d7 d8 d9 d10 d11
          go_wp2
          go_roundw
          case rel => exact ⟨j + 1, a, lv, s, g, Ls, k, X, by omega, by go_num, HS.out.skip HT8.out⟩
          case measure => simp [intOf]; omega
      · have hli : ¬ (j : Int) < (n : Int) := by omega
        have hg0 : wr.cell? ⟨w5.heap.size, 0, none⟩ = some (.int .i64 s) := HS.out.gbk.cell 0
        have hg1 : wr.cell? ⟨w5.heap.size, 1, none⟩ = some (.int .i64 g) := HS.out.gbk.cell 1
        go_wp2_with fail
        have hdl : ((Ls.take k).map (·.D.d)).reverse.length ≤ 1048576 := by
          rw [List.length_reverse, List.length_map, List.length_take]
          have := HS.out.kj
          omega
        have hxl : X.P.g.l.length ≤ 1048576 := by rw [HS.out.row, HQ.out.lenq]; exact HQ.out.room
        have HFIT : Hid (Fit X.P.g.l ((Ls.take k).map (·.D.d)).reverse) := fit_small hxl hdl HS.out.each
        have hgl0 : (ChnN.fo Ls k X).1.l.length ≤ 2000000000000 := fo_len4 hxl hdl HS.out.each
        have HLE : Hid (Ls.length ≤ live a.us) := by rw [HS.out.len, HS.out.live]; exact Nat.le_refl _
        clear hdl hxl
        obtain ⟨⟨⟨gf, glo, ghi, gr, gl⟩, er⟩, hfo⟩ : ∃ A, ChnN.fo Ls k X = A := ⟨_, rfl⟩
        have HFO : Hid (ChnN.fo Ls k X = (⟨gf, glo, ghi, gr, gl⟩, er)) := hfo
        refine (page_good HS.out.chs s g Ls HS.out.chn HLE.out k HS.out.len X HS.out.last (fun _ => HFIT.out)).mono ?_
        rintro e w9 ⟨v, rfl, hpg, ht9⟩
        rw [hfo] at hpg ⊢
        rw [hfo] at hgl0
        obtain ⟨xp, xc, rfl, hseg⟩ := hpg
        simp only at hseg hgl0 ⊢
        obtain ⟨gn, hgn⟩ : ∃ gn, gl.length = gn := ⟨_, rfl⟩
        rw [hgn] at hseg hgl0 ⊢
        have HGN : Hid (gl.length = gn ∧ gn ≤ 2000000000000) := ⟨hgn, hgl0⟩
        obtain ⟨xbl, hx1, hx2⟩ : ∃ xbl : List Nat, (∀ y ∈ xbl, wr.heap.size ≤ y ∧ y < w9.heap.size) ∧ (∀ b o, xp = some ⟨b, o, none⟩ → b ∈ xbl) := by
          match xp, hseg with
          | none, _ => exact ⟨[], by simp, fun b o e => by cases e⟩
          | some ⟨b, o, none⟩, hs => exact ⟨[b], fun y hy => by simp only [List.mem_cons, List.not_mem_nil, or_false] at hy; subst hy; exact hs.lt rfl, fun b' o' e => by cases e; simp⟩
          | some ⟨b, o, some i⟩, _ => exact ⟨[], by simp, fun b o e => by cases e⟩
        obtain ⟨w10, hw10⟩ : ∃ w10, w9.alloc (.cells (pgc gf glo ghi gr xp gn xc) 29) = w10 := ⟨_, rfl⟩
        have hT10 : Tn [] w9 w10 := by rw [← hw10]; exact (Tn.refl _ _).alloc _
        have HT10 : Hid (Tn [] wr w10) := ht9.trans hT10 (by simp)
        have HW10 : Hid (Bk w10 w9.heap.size 29 (pgc gf glo ghi gr xp gn xc) ∧ Ens w10 xp gl) := by
          refine ⟨?_, (hseg.tn (S := []) hT10 (by simp)).ens⟩
          rw [← hw10]
          exact Bk.new _ _ _
        have HC10 : Hid (Chs w0.heap.size w10 w0.heap.size a lv ((w9.heap.size :: xbl) ++ [w5.heap.size])) := HS.out.chs.more HT10.out [] (w9.heap.size :: xbl) (by simp) (fun y hy => by
          have hz := HW10.out.1.lt
          have hz9 := ht9.size
          rcases List.mem_cons.1 hy with rfl | hy
          · exact ⟨hz9, hz⟩
          · have := hx1 y hy; exact ⟨this.1, by omega⟩) (by simp)
        have HX2 : Hid (∀ b o, xp = some ⟨b, o, none⟩ → b ∈ xbl) := hx2
        clear hx1 hx2 hseg hgl0 hgn hT10 ht9 hg0 hg1
        go_wp2_with fail
        refine (liveSN HC10.out.ar).mono ?_
        rintro e w11 ⟨rfl, ht11⟩
        rw [HS.out.live]
        have HT11 : Hid (Tn [] w10 w11) := ht11
        have HC11 : Hid (Chs w0.heap.size w11 w0.heap.size a lv ((w9.heap.size :: xbl) ++ [w5.heap.size])) := HC10.out.quiet ht11
        have HB11 : Hid (Below w0.heap.size w0 w11) := HS.out.below.trans ((HT10.out.trans ht11 (by simp)).below HS.out.ge.2 (by simp))
        have kh : Bk w11 w5.heap.size 31 #[.int .i64 s, .int .i64 g] := HS.out.gbk.tn (HT10.out.trans ht11 (by simp)) (by simp)
        have hh0 : w11.cell? ⟨w5.heap.size, 0, none⟩ = some (.int .i64 s) := kh.cell 0
        have hh1 : w11.cell? ⟨w5.heap.size, 1, none⟩ = some (.int .i64 g) := kh.cell 1
        have HKH : Hid (Bk w11 w5.heap.size 31 #[.int .i64 s, .int .i64 g]) := kh
        clear ht11 kh hw10
        go_wp2_with fail
        by_cases h0 : er = 0
        · subst h0
          by_cases hm : Pg.may gf ⟨glo, ghi⟩ gr gl = true
          · have hpk := pack_good HC11.out s g Ls HS.out.chn HLE.out k HS.out.len X HS.out.last HFIT.out (by rw [HFO.out]) (by rw [HFO.out]; exact hm) (by rw [HFO.out]; have := HGN.out; simp only; omega) (by rw [HS.out.live, HS.out.size]; have := HS.out.kj; omega) (HS.out.gens.gen (by omega)).1 (by have := (HS.out.gens.gen (by omega)).2; have := HS.out.kj; omega)
            rw [HFO.out] at hpk
            refine hpk.mono ?_
            rintro e w12 ⟨rfl, q, qc, bs, hA12, -⟩
            simp only at hA12
            have hP9 := ChnN.begun a (bnd ⟨gf, glo, ghi, gr, gl⟩ q qc) rfl
            have hlg : (slAt (a.put (bnd ⟨gf, glo, ghi, gr, gl⟩ q qc)).us (((low a.us : Nat) : Int)).toNat).val.long = 0 := by rw [Int.toNat_natCast, (put_new a _).1]
            have HAA : Hid (ChnN (a.put (bnd ⟨gf, glo, ghi, gr, gl⟩ q qc)) s g Ls ∧ live (a.put (bnd ⟨gf, glo, ghi, gr, gl⟩ q qc)).us = k + 2) := ⟨HS.out.chn.put _, by rw [live_put, HS.out.live]⟩
            clear hh0 hh1 hpk
            generalize ((low a.us : Nat) : Int) = s9 at *
            generalize a.gen = g9 at *
            generalize hPQ : bnd ⟨gf, glo, ghi, gr, gl⟩ q qc = PQ at *
            have HPQ : Hid (PQ.P.g = ⟨gf, glo, ghi, gr, gl⟩) := by rw [← hPQ]; exact rfl
            have hA12' : Afc w0.heap.size w11 w12 w0.heap.size (a.put PQ) (bs ++ lv) ((w9.heap.size :: xbl) ++ [w5.heap.size]) := by rw [← hPQ]; exact hA12
            clear hPQ hA12
            generalize a.put PQ = a9 at *
            have HAF : Hid (Afc w0.heap.size w11 w12 w0.heap.size a9 (bs ++ lv) ((w9.heap.size :: xbl) ++ [w5.heap.size])) := hA12'
            have HP9 : Hid (ChnN a9 s9 g9 [PQ] ∧ (slAt a9.us s9.toNat).val.long = 0) := ⟨hP9, hlg⟩
            clear hP9 hlg hA12'
            obtain ⟨w13, hw13⟩ : ∃ w13, w12.alloc (.cells #[.int .i64 s9, .int .i64 g9] 31) = w13 := ⟨_, rfl⟩
            have HT13 : Hid (Tn [] w12 w13) := by rw [← hw13]; exact (Tn.refl _ _).alloc _
            have HC13 : Hid (Chs w0.heap.size w13 w0.heap.size a9 (bs ++ lv) ((w9.heap.size :: xbl) ++ [w5.heap.size])) := HAF.out.chs.quiet HT13.out
            have HB13 : Hid (Below w0.heap.size w0 w13) := (HB11.out.trans HAF.out.below).trans (HT13.out.below HAF.out.chs.ge (by simp))
            have HK13 : Hid (Bk w13 w12.heap.size 31 #[.int .i64 s9, .int .i64 g9]) := by rw [← hw13]; exact Bk.new _ _ _
            have HH13 : Hid (Bk w13 w5.heap.size 31 #[.int .i64 s, .int .i64 g]) := (show Bk w12 w5.heap.size _ _ from (HAF.out.same w5.heap.size (by simp)).trans HKH.out).tn HT13.out (by simp)
            have HX13 : Hid (Bk w13 w9.heap.size 29 (pgc gf glo ghi gr xp gn xc) ∧ Ens w13 xp gl) := by
              have h1 : Bk w11 w9.heap.size 29 (pgc gf glo ghi gr xp gn xc) := HW10.out.1.tn HT11.out (by simp)
              have h2 : Ens w11 xp gl := HW10.out.2.below (HT11.out.below (Nat.le_refl _) (by simp)) (Nat.le_refl _)
              have h3 : Bk w12 w9.heap.size 29 (pgc gf glo ghi gr xp gn xc) := (HAF.out.same w9.heap.size (by simp)).trans h1
              have h4 : Ens w12 xp gl := h2.blk (fun b o e => HAF.out.same b (by simp [HX2.out b o e]))
              exact ⟨h3.tn HT13.out (by simp), h4.below (HT13.out.below (Nat.le_refl _) (by simp)) (Nat.le_refl _)⟩
            have gg0 : w13.cell? ⟨w12.heap.size, 0, none⟩ = some (.int .i64 s9) := HK13.out.cell 0
            have gg1 : w13.cell? ⟨w12.heap.size, 1, none⟩ = some (.int .i64 g9) := HK13.out.cell 1
            go_wp2_with fail
            have hfq : ChnN.fo [PQ] 0 PQ = (⟨gf, glo, ghi, gr, gl⟩, 0) := by
              have h1 : ChnN.fo [PQ] 0 PQ = Dl.fo PQ.P.g [] := rfl
              rw [h1, HPQ.out]
              rfl
            refine (page_good HC13.out s9 g9 [PQ] HP9.out.1 (good_live (chn_hd HP9.out.1)) 0 rfl PQ rfl (fun h => (by
              have hr := (HGN.out.1 ▸ HGN.out.2 : gl.length ≤ 2000000000000)
              exact fit_none (by rw [HPQ.out]; exact hr)))).mono ?_
            rintro e w14 ⟨v, rfl, hpg, ht14⟩
            rw [hfq] at hpg ⊢
            obtain ⟨yp, yc, rfl, hseg⟩ := hpg
            simp only at hseg ⊢
            rw [HGN.out.1] at hseg ⊢
            obtain ⟨w15, hw15⟩ : ∃ w15, w14.alloc (.cells (pgc gf glo ghi gr yp gn yc) 29) = w15 := ⟨_, rfl⟩
            have hT15 : Tn [] w14 w15 := by rw [← hw15]; exact (Tn.refl _ _).alloc _
            have HT15 : Hid (Tn [] w13 w15) := ht14.trans hT15 (by simp)
            have HY15 : Hid (Bk w15 w14.heap.size 29 (pgc gf glo ghi gr yp gn yc) ∧ Ens w15 yp gl) := by
              refine ⟨?_, (hseg.tn (S := []) hT15 (by simp)).ens⟩
              rw [← hw15]
              exact Bk.new _ _ _
            have hk15 := HK13.out.tn HT15.out (by simp)
            clear gg0 gg1 hseg ht14 hT15 hw13 hfq
            have gg0 : w15.cell? ⟨w12.heap.size, 0, none⟩ = some (.int .i64 s9) := hk15.cell 0
            have gg1 : w15.cell? ⟨w12.heap.size, 1, none⟩ = some (.int .i64 g9) := hk15.cell 1
            go_wp2_with fail
            refine (long_ok (HC13.out.quiet HT15.out) s9 g9 (chn_hd HP9.out.1)).mono ?_
            rintro e w16 ⟨rfl, ht16⟩
            rw [HP9.out.2]
            have HT16 : Hid (Tn [] w13 w16 ∧ Tn [] w15 w16) := ⟨HT15.out.trans ht16 (by simp), ht16⟩
            have hk16 := HH13.out.tn HT16.out.1 (by simp)
            clear gg0 gg1 ht16 hk15 hw15
            have hh0 : w16.cell? ⟨w5.heap.size, 0, none⟩ = some (.int .i64 s) := hk16.cell 0
            have hh1 : w16.cell? ⟨w5.heap.size, 1, none⟩ = some (.int .i64 g) := hk16.cell 1
            go_wp2_with fail
            refine (page_good (HC13.out.quiet HT16.out.1) s g Ls HAA.out.1 (by rw [HAA.out.2, HS.out.len]; omega) k HS.out.len X HS.out.last (fun _ => HFIT.out)).mono ?_
            rintro e w17 ⟨v, rfl, hpg, ht17⟩
            rw [HFO.out] at hpg ⊢
            obtain ⟨zp, zc, rfl, hseg⟩ := hpg
            simp only at hseg ⊢
            rw [HGN.out.1] at hseg ⊢
            obtain ⟨w18, hw18⟩ : ∃ w18, w17.alloc (.cells (pgc gf glo ghi gr zp gn zc) 29) = w18 := ⟨_, rfl⟩
            have hT18 : Tn [] w17 w18 := by rw [← hw18]; exact (Tn.refl _ _).alloc _
            have HT18 : Hid (Tn [] w16 w18) := ht17.trans hT18 (by simp)
            have HZ18 : Hid (Bk w18 w17.heap.size 29 (pgc gf glo ghi gr zp gn zc) ∧ Ens w18 zp gl) := by
              refine ⟨?_, (hseg.tn (S := []) hT18 (by simp)).ens⟩
              rw [← hw18]
              exact Bk.new _ _ _
            have HT8 : Hid (Tn [] w13 w18 ∧ Tn [] w15 w18) := ⟨HT16.out.1.trans HT18.out (by simp), HT16.out.2.trans HT18.out (by simp)⟩
            have HS1 : Hid (∀ W, Tn [] w18 W → Calls Tryz.prog 25 #[pgv gf glo ghi gr yp gn yc, pgv gf glo ghi gr xp gn xc] W fun r w' => r = .returned (.bool true) ∧ Below W.heap.size W w') := fun W hW => by
              have := rsame_any ⟨gf, glo, ghi, gr, gl⟩ ⟨gf, glo, ghi, gr, gl⟩ yp xp gn gn yc xc W HGN.out.1 HGN.out.1 (HY15.out.2.below ((HT8.out.2.trans hW (by simp)).below (Nat.le_refl _) (by simp)) (Nat.le_refl _)) (HX13.out.2.below ((HT8.out.1.trans hW (by simp)).below (Nat.le_refl _) (by simp)) (Nat.le_refl _)) (by have := HGN.out.2; omega)
              simp only [Pg.same_self] at this
              exact this
            have HS2 : Hid (∀ W, Tn [] w18 W → Calls Tryz.prog 25 #[pgv gf glo ghi gr zp gn zc, pgv gf glo ghi gr xp gn xc] W fun r w' => r = .returned (.bool true) ∧ Below W.heap.size W w') := fun W hW => by
              have := rsame_any ⟨gf, glo, ghi, gr, gl⟩ ⟨gf, glo, ghi, gr, gl⟩ zp xp gn gn zc xc W HGN.out.1 HGN.out.1 (HZ18.out.2.below (hW.below (Nat.le_refl _) (by simp)) (Nat.le_refl _)) (HX13.out.2.below ((HT8.out.1.trans hW (by simp)).below (Nat.le_refl _) (by simp)) (Nat.le_refl _)) (by have := HGN.out.2; omega)
              simp only [Pg.same_self] at this
              exact this
            have kx18 := HX13.out.1.tn HT8.out.1 (by simp)
            have ky18 := HY15.out.1.tn HT8.out.2 (by simp)
            have x0 : w18.cell? ⟨w9.heap.size, 0, none⟩ = some (.bool gf) := kx18.cell 0
            have x1 : w18.cell? ⟨w9.heap.size, 1, none⟩ = some (.string glo) := kx18.cell 1
            have x2 : w18.cell? ⟨w9.heap.size, 2, none⟩ = some (.string ghi) := kx18.cell 2
            have x3 : w18.cell? ⟨w9.heap.size, 3, none⟩ = some (.int .i64 gr) := kx18.cell 3
            have x4 : w18.cell? ⟨w9.heap.size, 4, none⟩ = some (.slice xp gn xc) := kx18.cell 4
            have y0 : w18.cell? ⟨w14.heap.size, 0, none⟩ = some (.bool gf) := ky18.cell 0
            have y1 : w18.cell? ⟨w14.heap.size, 1, none⟩ = some (.string glo) := ky18.cell 1
            have y2 : w18.cell? ⟨w14.heap.size, 2, none⟩ = some (.string ghi) := ky18.cell 2
            have y3 : w18.cell? ⟨w14.heap.size, 3, none⟩ = some (.int .i64 gr) := ky18.cell 3
            have y4 : w18.cell? ⟨w14.heap.size, 4, none⟩ = some (.slice yp gn yc) := ky18.cell 4
            clear hh0 hh1 hseg ht17 hT18 hk16 kx18 ky18
            go_wp2_with fail
            refine (HS1.out w18 (Tn.refl _ _)).mono ?_
            rintro e w19 ⟨rfl, hb19⟩
            have HT19 : Hid (Tn [] w18 w19) := Tn.of_below hb19 []
            have kx19 := HX13.out.1.tn (HT8.out.1.trans HT19.out (by simp)) (by simp)
            have kz19 := HZ18.out.1.tn HT19.out (by simp)
            clear hb19 hw18
            clear x0 x1 x2 x3 x4 y0 y1 y2 y3 y4
            have x0 : w19.cell? ⟨w9.heap.size, 0, none⟩ = some (.bool gf) := kx19.cell 0
            have x1 : w19.cell? ⟨w9.heap.size, 1, none⟩ = some (.string glo) := kx19.cell 1
            have x2 : w19.cell? ⟨w9.heap.size, 2, none⟩ = some (.string ghi) := kx19.cell 2
            have x3 : w19.cell? ⟨w9.heap.size, 3, none⟩ = some (.int .i64 gr) := kx19.cell 3
            have x4 : w19.cell? ⟨w9.heap.size, 4, none⟩ = some (.slice xp gn xc) := kx19.cell 4
            have z0 : w19.cell? ⟨w17.heap.size, 0, none⟩ = some (.bool gf) := kz19.cell 0
            have z1 : w19.cell? ⟨w17.heap.size, 1, none⟩ = some (.string glo) := kz19.cell 1
            have z2 : w19.cell? ⟨w17.heap.size, 2, none⟩ = some (.string ghi) := kz19.cell 2
            have z3 : w19.cell? ⟨w17.heap.size, 3, none⟩ = some (.int .i64 gr) := kz19.cell 3
            have z4 : w19.cell? ⟨w17.heap.size, 4, none⟩ = some (.slice zp gn zc) := kz19.cell 4
            clear kx19 kz19
            go_wp2_with fail
            refine (HS2.out w19 HT19.out).mono ?_
            rintro e w20 ⟨rfl, hb20⟩
            have HT20 : Hid (Tn [] w13 w20) := (HT8.out.1.trans HT19.out (by simp)).trans (Tn.of_below hb20 []) (by simp)
            have HC20 : Hid (Chs w0.heap.size w20 w0.heap.size a9 (bs ++ lv) ((w9.heap.size :: xbl) ++ [w5.heap.size])) := HC13.out.quiet HT20.out
            clear hb20 x0 x1 x2 x3 x4 z0 z1 z2 z3 z4
            go_wp2_with fail
            refine (liveSN HC20.out.ar).mono ?_
            rintro e w21 ⟨rfl, ht21⟩
            rw [HAA.out.2]
            have HT21 : Hid (Tn [] w13 w21) := HT20.out.trans ht21 (by simp)
            have hk21 := HH13.out.tn HT21.out (by simp)
            have hki : ((k + 2 : Nat) : Int) = ((k + 1 : Nat) : Int) + 1 := by omega
            have hk9 : k ≤ 60 := by have := HS.out.kj; omega
            clear ht21
            have hh0 : w21.cell? ⟨w5.heap.size, 0, none⟩ = some (.int .i64 s) := hk21.cell 0
            have hh1 : w21.cell? ⟨w5.heap.size, 1, none⟩ = some (.int .i64 g) := hk21.cell 1
            go_wp2_with fail
            refine (free_goodC (HC13.out.quiet HT21.out) s g Ls HAA.out.1 (by rw [HAA.out.2, HS.out.len]; omega) k HS.out.len X HS.out.last).mono ?_
            rintro e w22 ⟨rfl, hA22⟩
            have hlv := frs_live (hdn s g Ls) a9 HAA.out.1.good HAA.out.1.slots
            rw [hdn_len, HS.out.len, HAA.out.2] at hlv
            have hl1 : live (frs a9 (hdn s g Ls)).us = 1 := by omega
            have HL1 : Hid (live (frs a9 (hdn s g Ls)).us = 1) := hl1
            have HC22 : Hid (Chs w0.heap.size w22 w0.heap.size (frs a9 (hdn s g Ls)) (bs ++ lv) ((w9.heap.size :: xbl) ++ [w5.heap.size]) ∧ Below w0.heap.size w0 w22) := ⟨hA22.chs, (HB13.out.trans (HT21.out.below HC13.out.ge (by simp))).trans hA22.below⟩
            clear hA22 hlv hl1 hh0 hh1 hk21
            go_wp2_with fail
            refine (liveSN HC22.out.1.ar).mono ?_
            rintro e w23 ⟨rfl, ht23⟩
            rw [HL1.out]
            have HB23 : Hid (Below w.heap.size w w23) := (HPX.out w23 (HC22.out.2.trans (ht23.below HC22.out.1.ge (by simp)))).2.2.2
            clear ht23
            go_wp2
            go_ret
            exact ⟨rfl, HB23.out⟩
          · have hpk := pack_no HC11.out s g Ls HS.out.chn HLE.out k HS.out.len X HS.out.last HFIT.out (by rw [HFO.out]) (by rw [HFO.out]; exact hm) (by rw [HFO.out]; have := HGN.out; simp only; omega)
            refine hpk.mono ?_
            rintro e w12 ⟨rfl, ht12⟩
            have HT12 : Hid (Tn [] w10 (w12.alloc (.cells #[.int .i64 0, .int .i64 0] 31))) := (HT11.out.trans ht12 (by simp)).alloc _
            have kx := HW10.out.1.tn HT12.out (by simp)
            have x0 : (w12.alloc (.cells #[.int .i64 0, .int .i64 0] 31)).cell? ⟨w9.heap.size, 0, none⟩ = some (.bool gf) := kx.cell 0
            have x1 : (w12.alloc (.cells #[.int .i64 0, .int .i64 0] 31)).cell? ⟨w9.heap.size, 1, none⟩ = some (.string glo) := kx.cell 1
            have x2 : (w12.alloc (.cells #[.int .i64 0, .int .i64 0] 31)).cell? ⟨w9.heap.size, 2, none⟩ = some (.string ghi) := kx.cell 2
            have x3 : (w12.alloc (.cells #[.int .i64 0, .int .i64 0] 31)).cell? ⟨w9.heap.size, 3, none⟩ = some (.int .i64 gr) := kx.cell 3
            have x4 : (w12.alloc (.cells #[.int .i64 0, .int .i64 0] 31)).cell? ⟨w9.heap.size, 4, none⟩ = some (.slice xp gn xc) := kx.cell 4
            have HB12 : Hid (Below w0.heap.size w0 (w12.alloc (.cells #[.int .i64 0, .int .i64 0] 31))) := HB11.out.trans ((ht12.alloc _).below (by have := HB11.out.size; exact this) (by simp))
            clear kx hh0 hh1 hpk ht12
            go_wp2_with fail
            have hck := rcheck_any gf glo ghi gr xp gn xc gl (w12.alloc (.cells #[.int .i64 0, .int .i64 0] 31)) HGN.out.1 (HW10.out.2.below (HT12.out.below (Nat.le_refl _) (by simp)) (Nat.le_refl _)) (by have := HGN.out.2; omega)
            rw [if_neg hm] at hck
            refine hck.mono ?_
            rintro e w13 ⟨rfl, hb13⟩
            have HB13 : Hid (Below w.heap.size w w13) := (HPX.out w13 (HB12.out.trans (hb13.mono HB12.out.size))).2.2.2
            clear hck hb13 x0 x1 x2 x3 x4
            go_wp2
            go_ret
            exact ⟨rfl, HB13.out⟩
        · have hpk := pack_err HC11.out s g Ls HS.out.chn HLE.out k HS.out.len X HS.out.last (by rw [HFO.out]; exact h0)
          rw [HFO.out] at hpk
          refine hpk.mono ?_
          rintro e w12 ⟨rfl, ht12⟩
          have HC12 : Hid (Chs w0.heap.size (w12.alloc (.cells #[.int .i64 0, .int .i64 0] 31)) w0.heap.size a lv ((w9.heap.size :: xbl) ++ [w5.heap.size])) := HC11.out.quiet (ht12.alloc _)
          have HB12 : Hid (Below w0.heap.size w0 (w12.alloc (.cells #[.int .i64 0, .int .i64 0] 31))) := HB11.out.trans ((ht12.alloc _).below (by have := HB11.out.size; exact this) (by simp))
          clear hpk ht12 hh0 hh1
          go_wp2_with fail
          refine (liveSN HC12.out.ar).mono ?_
          rintro e w13 ⟨rfl, ht13⟩
          rw [HS.out.live]
          have HB13 : Hid (Below w.heap.size w w13) := (HPX.out w13 (HB12.out.trans (ht13.below HB12.out.size (by simp)))).2.2.2
          clear ht13
          go_wp2
          go_ret
          exact ⟨rfl, HB13.out⟩
  · have HCKQ : Hid (∀ W, Below w0.heap.size w0 W → Calls Tryz.prog 21 #[pgv qf qlo qhi qr qp qn qc] W fun e w' => e = .returned (.int .i64 cq) ∧ Below W.heap.size W w') := fun W hW => by
      have := rcheck_any qf qlo qhi qr qp qn qc ql W HQ.out.lenq (HPX.out W hW).2.1 (by have := HQ.out.room; omega)
      rwa [HCQ.out] at this
    have kq := (HPX.out w6 HB6.out).1
    have a0 : w6.cell? ⟨w.heap.size, 0, none⟩ = some (.bool qf) := kq.cell 0
    have a1 : w6.cell? ⟨w.heap.size, 1, none⟩ = some (.string qlo) := kq.cell 1
    have a2 : w6.cell? ⟨w.heap.size, 2, none⟩ = some (.string qhi) := kq.cell 2
    have a3 : w6.cell? ⟨w.heap.size, 3, none⟩ = some (.int .i64 qr) := kq.cell 3
    have a4 : w6.cell? ⟨w.heap.size, 4, none⟩ = some (.slice qp qn qc) := kq.cell 4
    clear kq
    go_wp2_with fail
    refine (HCKQ.out w6 HB6.out).mono ?_
    rintro e w8 ⟨rfl, hb8⟩
    have HB8 : Hid (Below w.heap.size w w8) := (HPX.out w8 (HB6.out.trans (hb8.mono HB6.out.size))).2.2.2
    clear a0 a1 a2 a3 a4 hb8 hw6
    go_wp2
    go_ret
    exact ⟨rfl, HB8.out⟩

theorem walk_chainPacks (qf : Bool) (qlo qhi : ByteArray) (qr : Int) (qp : Option Addr) (qn qc : Nat) (ql : List En) (lp : Option Addr) (ln lc : Nat) (L : List Dm) (w : World) (hq : InE 1048576 w qp qn qc ql) (hl : InDs w lp ln lc L) :
    Calls Tryz.prog 5 #[pgv qf qlo qhi qr qp qn qc, .slice lp ln lc] w fun e w' => e = .returned (.bool true) ∧ Below w.heap.size w w' := by
  have i : Inhabited Nod := ⟨Nod.zero⟩
  exact packs_inh qf qlo qhi qr qp qn qc ql lp ln lc L w hq hl

theorem contract_chainPacks (H : Type) (enc : TypeId × Value → H) (W : World) (base : Nat) (args : Array Value) (ds gs : List (DataW H)) (before : List MemPlace)
    (hval0 : ∀ (j : Nat) t v, Tryz.f5.params[j]? = some t → args[j]? = some v → Value.okWide Tryz.prog W .any base t v)
    (hW : DataW.Whole enc Tryz.prog Tryz.f5.params.toList Rows.chainPacksSpec.vars false W args.toList ds gs before) (hk : Rows.uptoSmall H (ds ++ gs) = true) :
    Calls Tryz.prog 5 args W fun e W' => ∃ v, e = .returned v ∧ Rows.chainPacksSpec.post enc Tryz.prog Tryz.f5 false true false false W args v W' := by
  have hval : ∀ (j : Nat) t v, Tryz.f5.params[j]? = some t → args[j]? = some v → Value.okWide Tryz.prog W .any base t v := hval0
  have hW' := hW
  obtain ⟨p, q, hA0, hV, rfl, hfz, hnd⟩ := hW
  have hA : DataW.TrodAll enc Tryz.prog W 0 (fun _ => true) true Tryz.f5.params.toList args.toList ds p := hA0
  rw [Tryz.params5] at hA hval
  obtain ⟨v0, vs0, d0, ds0, p0, q0, hargs, rfl, rfl, h0, r0⟩ := trodAll_cons hA
  obtain ⟨v1, vs1, d1, ds1, p1, q1, rfl, rfl, rfl, h1, r1⟩ := trodAll_cons r0
  obtain ⟨rfl, rfl, rfl⟩ := trodAll_nil r1
  obtain rfl : args = #[v0, v1] := by cases args; simp_all
  obtain ⟨rfl, rfl⟩ := trodVars_none hV
  simp only [List.append_nil] at hk
  have k0 := h0
  have lt0 : ∀ x ∈ p0, x.block < W.heap.size := by obtain ⟨m, hm⟩ := k0; exact DataW.trod_lt m _ _ _ hm
  obtain ⟨b0, lo0, hi0, r0', a0, len0, cap0, l0, e0, w0⟩ : ∃ leaf lo hi r a len cap l, v0 = .agg #[.bool leaf, .string lo, .string hi, .int .i64 r, .slice a len cap] ∧ InE 1048576 W a len cap l := by
    obtain ⟨cs, hcs, _⟩ := okWide_struct Tryz.underlying29 (hval 0 29 v0 rfl rfl)
    obtain ⟨fuel, hf⟩ := h0
    obtain ⟨b, lo, hi, r, a, len, cap, l, hg, ho⟩ := in_page (M := 1048576) hf (page_upto hk (by simp))
    refine ⟨b, lo, hi, r, a, len, cap, l, ?_, ho⟩
    rw [hcs] at hg ⊢
    congr 1
    apply Array.ext'
    simpa [Value.cells] using hg
  subst e0
  obtain ⟨a1, len1, cap1, rfl⟩ := okWide_slice Tryz.underlying64 (hval 1 64 v1 rfl rfl)
  have k1 := h1
  have lt1 : ∀ x ∈ p1, x.block < W.heap.size := by obtain ⟨m, hm⟩ := k1; exact DataW.trod_lt m _ _ _ hm
  obtain ⟨z1, w1⟩ := in_deltas hk (by simp) h1
  clear hA0 hval0
  simp only [List.append_nil] at hW'
  refine (walk_chainPacks b0 lo0 hi0 r0' a0 len0 cap0 l0 a1 len1 cap1 z1 W w0 w1).mono fun e W' ⟨he, bel⟩ => ?_
  subst he
  exact ⟨_, rfl, _, _, _, [], _, [], hW', trodAll_mk1 (shut_bool Tryz.underlying4 _), (trodAll_cons_mk (Below.trod laidOut (by kernel_rfl) (of_decide_eq_true (by kernel_rfl)) k0 bel lt0) (trodAll_cons_mk (Below.trod laidOut (by kernel_rfl) (of_decide_eq_true (by kernel_rfl)) k1 bel lt1) trodAll_mk0)), rfl, bel.frame _, fun h => by cases h⟩

set_option maxRecDepth 100000 in
set_option maxHeartbeats 2000000 in
theorem lifted_chainPacks (os : Os) (started : os.Started) (H : Type) (enc : TypeId × Value → H) (F : Stop.Interp) :
    ReturnsInHanded {} Tryz.checked os 5 .any ((Rows.OpenSpec.upto Rows.chainPacksSpec).pre6 enc Tryz.prog Tryz.f5 Rows.chainPacksUptoRow.domain false) (((Rows.OpenSpec.upto Rows.chainPacksSpec).at F).post enc Tryz.prog Tryz.f5 false true false false) := by
  refine returnsInHanded_of_cond (C := Tryz.checked) (s := Rows.OpenSpec.upto Rows.chainPacksSpec) (k := Rows.uptoSmall) rfl own started (by kernel_rfl) Tryz.func5
    (OpenSpec.witness (enc := enc) (C := Tryz.checked) (s := Rows.OpenSpec.upto Rows.chainPacksSpec) (k := Rows.uptoSmall) rfl false ⟨#[], #[.agg #[.bool false, .string .empty, .string .empty, .int .i64 0, .slice none 0 0], .slice none 0 0], []⟩ 8 (by kernel_rfl) (by kernel_rfl) (by kernel_rfl)
      (x := ([.agg [.lit (.bool false), .lit (.string []), .lit (.string []), .lit (.int .i64 0), .nil], .nil], [], [])) (by kernel_rfl) rfl (by kernel_rfl)) ?_
  intro W base args ds gs before hval hW _ hk _
  exact contract_chainPacks H enc W base args ds gs before hval hW hk

/-- The statement. -/
theorem chainPacks_holds : Rows.ChainPacksUptoSaid :=
  OpenClaim.holds_of_cond 5 Tryz.f5 rfl rfl rfl rfl rfl rfl rfl ⟨rfl, rfl, rfl, rfl, rfl⟩ rfl rfl rfl rfl rfl (by kernel_rfl) Tryz.func5 (by kernel_rfl)
    (of_decide_eq_true (by kernel_rfl)) (by unfold Func.isWrapper; first | (rw [if_pos (by decide +kernel)]; kernel_rfl) | (rw [if_neg (by decide +kernel)]; exact ⟨rfl, rfl⟩))
    (fun os started H enc _ F => lifted_chainPacks os started H enc F)
#print axioms chainPacks_holds
end Go.Proofs.YtoehlgigidgfpaaGreat
