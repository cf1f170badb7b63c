/- The document's clone of a delta. -/
import Derived.Test.YthpilennljpamaaGreatDeltaFoldsA
import Derived.Test.YthpilennljpamaaGreatPgPu
import Derived.Test.YthpilennljpamaaGreatPgMg
import Derived.Test.YthpilennljpamaaGreatDlO
import Derived.Test.YthpilennljpamaaGreatDlB
import Derived.Test.YthpilennljpamaaGreatPgFe
import Derived.Test.YthpilennljpamaaGreatPgRm
import Derived.Test.YthpilennljpamaaGreatPgOpen
import Derived.Test.YthpilennljpamaaGreatDlL
import Derived.Deep.RegionHeld3
import Derived.Test.YthpilennljpamaaGreatDlS
namespace Go.Proofs.YthpilennljpamaaGreat
open Go.RowKit Go.Lib Go.Shelf Dr
attribute [local go_sem] Oper.semAt_some
set_option linter.unusedVariables false
set_option maxRecDepth 100000

/-- All texts that a draft knows. -/
def allTexts (pl : List En) (ds : List De) : List (List UInt8) := textsOf ds ++ (pl ++ rowsOf ds).map fun e => e.key.toList

/-- A new draft that is answered. -/
def Ndr (w : World) (pl : List En) (ds : List De) (e : Ending) (w' : World) : Prop :=
  ∃ B V, e = .returned (.pointer (some ⟨B, 0, none⟩)) ∧ Drn w' w.heap.size B (keysOf (allTexts pl ds)) (fx0 (keysOf (allTexts pl ds)) (pl ++ rowsOf ds)) (df0 (keysOf (allTexts pl ds)) (pl ++ rowsOf ds)) V ∧ Below w.heap.size w w'

set_option maxHeartbeats 16000000 in
theorem newDraft_any (pf : Bool) (plo phi : ByteArray) (pr : Int) (pp : Option Addr) (pn pc : Nat) (pl : List En) (p : Option Addr) (len cap : Nat) (L : List Dm) (w : World) (hlen : pl.length = pn) (hx : Ens w pp pl) (hp : pp = none → pn = 0) (hL : L.length = len) (hD : Des w p L)
    (hRt : (pl ++ rowsOf (L.map (·.d)).reverse).length ≤ 3518437208782) (hKt : (allTexts pl (L.map (·.d)).reverse).length ≤ 7036874417766) :
    Calls Tryz.prog 72 #[pgv pf plo phi pr pp pn pc, .slice p len cap] w fun e w' => Ndr w pl (L.map (·.d)).reverse e w' := by
  have hll : len ≤ 4398046511104 := by
    have h1 : (textsOf (L.map (·.d)).reverse).length = 2 * len := by
      have : ∀ ds : List De, (textsOf ds).length = 2 * ds.length := fun ds => by
        induction ds with
        | nil => rfl
        | cons d r ih => simp only [textsOf, List.map_cons, List.flatten_cons, List.length_append, List.length_cons, List.length_nil] at ih ⊢; omega
      rw [this]; simp [hL]
    unfold allTexts at hKt
    rw [List.length_append] at hKt
    omega
  have hpl : pn ≤ 3518437208782 := by
    rw [List.length_append] at hRt
    omega
  refine calls_of_wpAt Tryz.func72 rfl ?_
  simp only [Tryz.ntmps72, List.size_toArray, List.length_cons, List.length_nil, Nat.reduceAdd, Nat.reduceSub, Array.replicate_succ, Array.replicate_zero, List.push_toArray, List.append_toArray, List.nil_append, List.cons_append]
  have HX : Hid (Ens w pp pl) := hx
  have HLn : Hid (pl.length = pn) := hlen
  have HPN : Hid (pp = none → pn = 0) := hp
  have HD : Hid (Des w p L) := hD
  have HL : Hid (L.length = len) := hL
  have HRT : Hid ((pl ++ rowsOf (L.map (·.d)).reverse).length ≤ 3518437208782) := hRt
  have HKT : Hid ((allTexts pl (L.map (·.d)).reverse).length ≤ 7036874417766) := hKt
  clear hx hlen hp hD hL hRt hKt
  obtain ⟨w0, hw0⟩ : ∃ w0, w0 = w.alloc (.cells #[.bool pf, .string plo, .string phi, .int .i64 pr, .slice pp pn pc] 24) := ⟨_, rfl⟩
  have HB0 : Hid (Below w.heap.size w w0) := by rw [hw0]; exact (Below.refl _ _).alloc (Nat.le_refl _) _
  have HK0 : Hid (Bk w0 w.heap.size 24 #[.bool pf, .string plo, .string phi, .int .i64 pr, .slice pp pn pc]) := by rw [hw0]; exact Bk.new _ _ _
  have a4 : w0.cell? ⟨w.heap.size, 4, none⟩ = some (.slice pp pn pc) := HK0.out.cell 4
  refine wpAt_seq_k fun K hK => wpAt_of_wp ?_
  go_wp2
  rw [← hw0]
  clear hw0
  refine wpAt_seq_k fun K hK => wpAt_of_wp ?_
  go_wp2_with fail
  refine (eclone_any pp pn pc pl w0 HLn.out (HX.out.below HB0.out (Nat.le_refl _)) hpl HPN.out).mono ?_
  rintro e w1 ⟨v1, rfl, ho1, hb1⟩
  obtain ⟨q1, c1, hv1⟩ : ∃ q c, v1 = .slice q pn c := by
    obtain ⟨q, c, hv, _, _⟩ := ho1.ens
    rw [HLn.out] at hv
    exact ⟨q, c, hv⟩
  obtain ⟨B, hB⟩ : ∃ B, w1.heap.size = B := ⟨_, rfl⟩
  obtain ⟨PP, hPP⟩ : ∃ PP, B + 1 = PP := ⟨_, rfl⟩
  obtain ⟨w2, hw2⟩ : ∃ w2, w2 = (w1.alloc (.cells #[nilS, v1, .int .i64 0, nilS, nilS, nilS, nilS, nilS, nilS, nilS] 118)).alloc (.cells #[.pointer (some ⟨B, 0, none⟩)] 99) := ⟨_, rfl⟩
  have HN2 : Hid (Nd w w2 B PP 0 [] pl nilS v1) := by
    have hb01 : Below w.heap.size w w1 := HB0.out.trans (hb1.mono HB0.out.size)
    have hv1b : ∀ k, v1.ownBlock = some k → w.heap.size ≤ k ∧ k < w1.heap.size := fun k hk => by
      have h1 := World.ownsRow.lt ho1 k hk
      have h2 := HB0.out.size
      omega
    have ht : Tn [] w1 w2 := by rw [hw2]; exact ((Tn.refl [] w1).alloc _).alloc _
    have hblk : Bk w2 B 118 #[nilS, v1, .int .i64 0, nilS, nilS, nilS, nilS, nilS, nilS, nilS] := by rw [hw2, ← hB]; exact (Bk.new _ _ _).alloc _
    have hbp : Bk w2 PP 99 #[.pointer (some ⟨B, 0, none⟩)] := by
      have := Bk.new (w1.alloc (.cells #[nilS, v1, .int .i64 0, nilS, nilS, nilS, nilS, nilS, nilS, nilS] 118)) 99 #[.pointer (some ⟨B, 0, none⟩)]
      have e : PP = w1.heap.size + 1 := by omega
      rw [hw2, e]
      simpa using this
    refine ⟨⟨hblk, ?_, fun i r hi => ?_, fun i r hi => ?_, fun i j r q k hi hj h1 h2 => ?_⟩, hbp, ⟨by omega, fun k hk => ?_⟩, hb01.trans (ht.below hb01.size (by simp)), Nat.zero_le _⟩
    · have := hb01.size; omega
    · match i, hi with
      | 0, hi => cases hi; exact World.ownsRow_nil _ _ _ _
      | 1, hi => cases hi; exact row_tn (row_mono ho1 HB0.out.size) ht (by simp)
      | n + 2, hi => simp [ndRows] at hi
    · match i, hi with
      | 0, hi => cases hi; intro h; cases h
      | 1, hi => cases hi; intro h; have := hv1b B h; omega
      | n + 2, hi => simp [ndRows] at hi
    · match i, hi, j, hj with
      | 0, hi, _, _ => cases hi; cases h1
      | 1, hi, 0, hj => cases hj; cases h2
      | 1, hi, 1, hj => rfl
      | 1, hi, n + 2, hj => simp [ndRows] at hj
      | n + 2, hi, _, _ => simp [ndRows] at hi
    · rcases hk with h | h
      · cases h
      · have := hv1b k h; omega
  clear ho1 hb1
  rw [hv1] at hw2 ⊢
  go_wp2
  rw [← hw2]
  clear hw2
  refine wpAt_seq_k fun K hK => ?_
  have HK : Hid _ := hK
  clear hK
  refine wpAt_seq_k fun K2 hK2 => wpAt_of_wp ?_
  go_wp2_with fail
  refine (backD_any p len cap w2).mono ?_
  rintro e w3 ⟨rfl, hw3⟩
  have ht3 : Tn [] w2 w3 := by rw [hw3]; exact (Tn.refl _ _).alloc _
  have hN3 : Nd w w3 B PP w3.heap.size [] pl nilS v1 := { HN2.out.still ht3 with sz := Nat.le_refl _ }
  have hk3 : Bk w3 w2.heap.size 25 #[.slice p len cap] := by rw [hw3]; exact Bk.new _ _ _
  have hs3 : w2.heap.size < w3.heap.size := hk3.lt
  have hseq := backD_stops HL.out hll HD.out hk3 (Alike.of_below hN3.below) hN3.below.size
  have HDS : Hid (∀ W, Below w.heap.size w W → Des W p L) := fun W hW => HD.out.below hW (Nat.le_refl _)
  have hws := hN3.below.size
  have hPl : PP < w2.heap.size := HN2.out.bx.lt
  have hBl : B < w2.heap.size := HN2.out.cl.blk.lt
  have hBg := HN2.out.cl.ge
  have hI3 : ∃ vK vR, Nd w w3 B PP w3.heap.size (textsOf []) (pl ++ rowsOf []) vK vR ∧ ∀ k, vK.ownBlock = some k ∨ vR.ownBlock = some k → k ≠ w2.heap.size := by
    refine ⟨nilS, v1, ?_, fun k hk => ?_⟩
    · have e : pl ++ rowsOf [] = pl := by simp [rowsOf]
      rw [e]
      exact hN3
    · rcases hk with h | h
      · cases h
      · have := ((HN2.out.cl.row 1 _ rfl).lt k h).2
        omega
  clear hw3 ht3 hk3
  go_wp2
  refine wpAt_block ?_
  refine wpAt_boxed ?A Tryz.func72 (gf := 93) (lb := #[.pointer (some ⟨w2.heap.size, 0, none⟩)]) rfl (enters_of Tryz.func93 (by kernel_rfl) rfl)
    hseq KpB.t (fun W l o o' hl _ _ _ => ⟨fun k hk => World.putObj_heap_other (by omega), World.putObj_heap_other (by omega)⟩) (Below.refl _ _) (fun _ => rfl)
    (fun pre W => ∃ vK vR, Nd w W B PP w3.heap.size (textsOf (pre.map (·.2.d))) (pl ++ rowsOf (pre.map (·.2.d))) vK vR ∧ ∀ k, vK.ownBlock = some k ∨ vR.ownBlock = some k → k ≠ w2.heap.size)
    (fun _ _ _ => False)
    (fun _ _ _ => False)
    (fun s A B' row hs hg hr => by
      obtain ⟨vK, vR, h1, h2⟩ := hs
      exact ⟨vK, vR, h1.abides (k := w3.heap.size) (by omega) hg hr, h2⟩)
    (fun cc s A B row hs hg hr => hs.elim)
    hI3
    (fun x bx W => w3.heap.size ≤ bx ∧ Bk W bx 32 x.2.cells.toArray)
    (fun x bx _ A B' row hs hg hr => ⟨hs.1, bk_from hs.2 hg hr⟩)
    ?assign ?body ?done (fun D cc pre W _ _ h _ => h.elim) (fun D cc pre W _ _ h _ => h.elim)
  case assign =>
    rintro l pre x W K hL hK
    obtain ⟨vK, vR, hL, hnb⟩ := hL
    gi_wp2
    have ht : Tn [] W (W.alloc (.cells x.2.cells.toArray 32)) := (Tn.refl _ _).alloc _
    obtain ⟨bx, hbx⟩ : ∃ bx, W.heap.size = bx := ⟨_, rfl⟩
    have kx : Bk (W.alloc (.cells x.2.cells.toArray 32)) bx 32 x.2.cells.toArray := by rw [← hbx]; exact Bk.new _ _ _
    have hle : w3.heap.size ≤ bx := by have := hL.sz; omega
    rw [hbx]
    refine hK bx _ ((keeps_tn ht (by simp)).from _) ⟨fun k hk => ht.block k (by omega) (by simp), ht.block _ (by omega) (by simp)⟩ ⟨vK, vR, hL.still ht, hnb⟩ ⟨hle, kx⟩
  case done =>
    rintro D zs W hD rfl hT hK2
    obtain ⟨vK, vR, hN, -⟩ := hT
    rw [Dl.bw_map] at hN
    obtain ⟨ds, hds⟩ : ∃ ds : List De, (L.map (·.d)).reverse = ds := ⟨_, rfl⟩
    have HRT2 := HRT.out
    have HKT2 := HKT.out
    rw [hds] at hN HRT2 HKT2 ⊢
    have HR0 : Hid ((pl ++ rowsOf ds).length ≤ 3518437208782 ∧ (allTexts pl ds).length ≤ 7036874417766) := ⟨HRT2, HKT2⟩
    have HDSE : Hid ((L.map (·.d)).reverse = ds) := hds
    clear HRT2 HKT2 hds
    obtain ⟨row, hrow⟩ : ∃ row, pl ++ rowsOf ds = row := ⟨_, rfl⟩
    rw [hrow] at hN
    have HROW : Hid (pl ++ rowsOf ds = row) := hrow
    obtain ⟨pR, nR, cR, hvR, hnRl⟩ : ∃ p n c, vR = .slice p n c ∧ row.length = n := by
      have h1 : OwnE W w.heap.size vR row := hN.cl.row 1 _ rfl
      obtain ⟨q, c, hv, _, _⟩ := h1.ens
      exact ⟨q, _, c, hv, rfl⟩
    have hnb : nR ≤ 3518437208782 := by have := HR0.out.1; rw [hrow] at this; omega
    subst hvR
    have HS0 : Hid (∃ vK, Nd w W B PP 0 (textsOf ds ++ (row.take 0).map fun e => e.key.toList) row vK (.slice pR nR cR)) := ⟨vK, by simpa using { hN with sz := Nat.zero_le _ }⟩
    have p0 : W.cell? ⟨PP, 0, none⟩ = some (.pointer (some ⟨B, 0, none⟩)) := hN.bx.cell 0
    have x1 : W.cell? ⟨B, 1, none⟩ = some (.slice pR nR cR) := hN.cl.blk.cell 1
    have HDD : Hid (D < W.heap.size ∧ w.heap.size ≤ D) := ⟨(Array.getElem?_eq_some_iff.1 hK2).1, by omega⟩
    clear hN
    refine HK.out _ _ (wpAt_of_wp ?_)
    clear HK K
    go_wp2_with fail
    clear p0 x1
    have HDW : Hid (W.heap[D]? = some (.deferred (some []))) := hK2
    clear hK2
    go_loopw [49] (fun iv wr => ∃ j : Nat, j ≤ nR ∧ iv = .int .i64 (j : Int) ∧ Hid (∃ vK, Nd w wr B PP 0 (textsOf ds ++ (row.take j).map fun e => e.key.toList) row vK (.slice pR nR cR)) ∧ Hid (wr.heap[D]? = some (.deferred (some [])))) (fun iv _ => nR - (intOf iv).toNat)
    case atStart => exact ⟨0, Nat.zero_le _, rfl, HS0, HDW⟩
    case round =>
      obtain ⟨j, hj, rfl, HW, HDr⟩ := hrel
      clear HS0 HDW
      by_cases hlt : j < nR
      · have hli : (j : Int) < (nR : Int) := by omega
        have hj0 : (0 : Int) ≤ (j : Int) := by omega
        obtain ⟨vK, hN⟩ := HW.out
        have hrr : wr.ownsRow w.heap.size 30 4 (.slice pR nR cR) nR (flatE row) := by have := hN.cl.row 1 _ rfl; simp only [hnRl] at this; exact this
        obtain ⟨gR, hpR⟩ : ∃ g, pR = some ⟨g, 0, none⟩ := by
          rcases hrr.2 with ⟨h1, h2⟩ | ⟨g, cap, cur, hv, _⟩
          · omega
          · cases hv; exact ⟨g, rfl⟩
        subst hpR
        obtain ⟨z0, z1, z2, z3⟩ := row_en hrr j hlt
        obtain ⟨xe, hxe⟩ : ∃ e, row.getD j En.zero = e := ⟨_, rfl⟩
        rw [hxe] at z0 z1 z2 z3
        obtain ⟨ss, hss⟩ : ∃ ss, textsOf ds ++ (row.take j).map (fun e => e.key.toList) = ss := ⟨_, rfl⟩
        rw [hss] at hN
        have hss2 : textsOf ds ++ (row.take (j + 1)).map (fun e => e.key.toList) = ss ++ [xe.key.toList] := by
          have hjl : j < row.length := by omega
          have : row[j]? = some xe := by rw [← hxe]; simp [List.getD, hjl]
          rw [List.take_add_one, this, List.map_append, ← List.append_assoc, hss]
          rfl
        have hsl : ss.length + 1 ≤ 8796093022207 := by
          have h1 := HR0.out.2
          unfold allTexts at h1
          rw [HROW.out] at h1
          rw [← hss]
          simp only [List.length_append, List.length_map, List.length_take] at h1 ⊢
          omega
        obtain ⟨w4, hw4⟩ : ∃ w4, wr.alloc (.cells #[.string xe.key, .int .i64 xe.s, .int .i64 xe.g, .int .i64 xe.c] 30) = w4 := ⟨_, rfl⟩
        obtain ⟨bx, hbx⟩ : ∃ bx, wr.heap.size = bx := ⟨_, rfl⟩
        have ht4 : Tn [] wr w4 := by rw [← hw4]; exact (Tn.refl [] wr).alloc _
        have hkx : Bk w4 bx 30 #[.string xe.key, .int .i64 xe.s, .int .i64 xe.g, .int .i64 xe.c] := by rw [← hw4, ← hbx]; exact Bk.new _ _ _
        have hN4 := (hN.still ht4).still (Tn.drew (Tn.refl [] w4))
        have hnK : ∀ k, vK.ownBlock = some k → k ≠ bx := fun k hk => by have := ((hN.cl.row 0 _ rfl).lt k hk).2; omega
        have hBx : B ≠ bx := by have := hN.cl.blk.lt; omega
        obtain ⟨pK, nK, cK, hvK⟩ : ∃ p n c, vK = .slice p n c := by
          rcases (hN.cl.row 0 _ rfl).2 with ⟨h1, h2⟩ | ⟨g, c, cur, h1, _⟩
          · exact ⟨none, 0, 0, h1⟩
          · exact ⟨_, _, c, h1⟩
        obtain ⟨W3, hW3⟩ : ∃ W3, w4.drew.alloc (.cells #[.string xe.key] 9) = W3 := ⟨_, rfl⟩
        have ht3 : Tn [] w4.drew W3 := by rw [← hW3]; exact (Tn.refl [] _).alloc _
        have hN3 := hN4.still ht3
        have hE3 : Bk W3 w4.heap.size 9 #[.string xe.key] := by rw [← hW3]; exact Bk.new w4.drew _ _
        have hkx3 : Bk W3 bx 30 _ := (show Bk w4.drew bx 30 _ from hkx).tn ht3 (by simp)
        obtain ⟨v5, W4, hr5, ho5, hg5, hb5⟩ := run_appS W3 w.heap.size 114 vK ss [xe.key.toList] w4.heap.size 1 rfl (fun q u hu => by
          have hq : q = 0 := by have := (List.getElem?_eq_some_iff.1 hu).1; simp at this; omega
          subst hq
          have e1 := enc_key xe.key
          simp only [List.map_cons, List.map_nil, List.getElem?_cons_zero, Option.some.injEq] at hu
          rw [← hu, e1]
          exact hE3.cell 0) (hN3.cl.row 0 _ rfl) (by omega) hN3.below.size
        obtain ⟨p5, n5, c5, hv5⟩ : ∃ p n c, v5 = .slice p n c := by
          rcases ho5.2 with ⟨h1, h2⟩ | ⟨g, c, cur, h1, _⟩
          · exact ⟨none, 0, 0, h1⟩
          · exact ⟨_, _, c, h1⟩
        subst hv5
        obtain ⟨hN5, ht5, hblk4⟩ := hN3.appK hg5 ho5 hb5
        have hnm : ∀ y, y ∈ vK.ownBlock.toList → vK.ownBlock = some y := fun y hk => by
          cases hb : vK.ownBlock with
          | none => rw [hb] at hk; simp at hk
          | some x => rw [hb] at hk; simp at hk; rw [hk]
        have hkx4 : Bk W4 bx 30 _ := hkx3.tn (tn_grown hg5) (fun hm => hnK _ (hnm _ hm) rfl)
        have hbx4 : Bk W4 PP 99 #[.pointer (some ⟨B, 0, none⟩)] := hN3.bx.tn (tn_grown hg5) (fun hm => hN.np.2 _ (.inl (hnm _ hm)) rfl)
        have HT4 : Hid (w4.drew.cell? ⟨PP, 0, none⟩ = some (.pointer (some ⟨B, 0, none⟩)) ∧ w4.drew.cell? ⟨B, 0, none⟩ = some (.slice pK nK cK) ∧ w4.drew.cell? ⟨bx, 0, none⟩ = some (.string xe.key)) := ⟨hN4.bx.cell 0, by rw [← hvK]; exact hN4.cl.blk.cell 0, hkx.cell 0⟩
        have HT5 : Hid (W3.cell? ⟨PP, 0, none⟩ = some (.pointer (some ⟨B, 0, none⟩)) ∧ W3.cell? ⟨B, 0, none⟩ = some (.slice pK nK cK) ∧ W3.cell? ⟨bx, 0, none⟩ = some (.string xe.key)) := ⟨hN3.bx.cell 0, by rw [← hvK]; exact hN3.cl.blk.cell 0, hkx3.cell 0⟩
        have HT6 : Hid (W4.cell? ⟨PP, 0, none⟩ = some (.pointer (some ⟨B, 0, none⟩)) ∧ W4.cell? ⟨B, 0, none⟩ = some (.slice pK nK cK) ∧ W4.cell? ⟨bx, 0, none⟩ = some (.string xe.key)) := ⟨hbx4.cell 0, by rw [← hvK]; exact hblk4.cell 0, hkx4.cell 0⟩
        have y0 : W4.cell? ⟨B, 0, none⟩ = some (.slice pK nK cK) := HT6.out.2.1
        have f0 : W4.frozen? ⟨B, 0, none⟩ = false := hblk4.frozen 0
        obtain ⟨W5, hW5⟩ : ∃ W5, W4.setCell ⟨B, 0, none⟩ (.slice p5 n5 c5) = W5 := ⟨_, rfl⟩
        rw [hW5] at hN5 ht5
        have HE : Hid ((∃ vK, Nd w W5 B PP 0 (textsOf ds ++ (row.take (j + 1)).map fun e => e.key.toList) row vK (.slice (some ⟨gR, 0, none⟩) nR cR)) ∧ W5.heap[D]? = some (.deferred (some []))) := by
          refine ⟨⟨_, by rw [hss2]; exact hN5⟩, ?_⟩
          have h1 : W3.heap[D]? = some (.deferred (some [])) := (ht3.block D (by have := (Array.getElem?_eq_some_iff.1 (show w4.heap[D]? = _ from (ht4.block D (Array.getElem?_eq_some_iff.1 HDr.out).1 (by simp)).trans HDr.out)).1; exact this) (by simp)).trans ((ht4.block D (Array.getElem?_eq_some_iff.1 HDr.out).1 (by simp)).trans HDr.out)
          refine (ht5.block D (Array.getElem?_eq_some_iff.1 h1).1 (fun hm => ?_)).trans h1
          rcases List.mem_cons.1 hm with h2 | h2
          · have h5 : W3.heap[B]? = _ := hN3.cl.blk
            rw [← h2, h1] at h5
            cases h5
          · obtain ⟨o, ho, hc⟩ := row_kind (hN3.cl.row 0 _ rfl) (hnm _ h2)
            rw [h1] at ho
            cases ho
            cases hc
        rw [hvK] at hr5
        have HR5 : Hid _ := hr5
        clear hr5 ho5 hg5 hb5 hN hN3 hN4 hN5 ht3 ht4 ht5 hblk4 hkx hkx3 hkx4 hbx4 hE3 hrr hss hss2 hxe hvK hnK hnm HW
        go_wp2_with fail
        refine wp_mono (Q := NoPanic _) ?_ NoPanic.imp
        refine wp_region_mid (S := (fun w' => w'.cell? ⟨PP, 0, none⟩ = some (.pointer (some ⟨B, 0, none⟩)) ∧ w'.cell? ⟨B, 0, none⟩ = some (.slice pK nK cK) ∧ w'.cell? ⟨bx, 0, none⟩ = some (.string xe.key))) 11 (by kernel_rfl) ?_
        refine wpAnyM_take (i := 0) [] (oi := { dst := some 53, op := Op.load 99 (Operand.tmp 5), type := 99, pos := _, after := #[], guard := none }) (v := .pointer (some ⟨B, 0, none⟩)) rfl (by kernel_rfl) (by kernel_rfl) (by kernel_rfl) (by kernel_rfl) (fun _ _ _ h => h) (Or.inl ⟨by rfl, ?_⟩) HT4.out ?_
        · (intro w' hSw; obtain ⟨m0, m1, m2⟩ := hSw; go_simp; try with_reducible rfl)
        try simp only [Act.put, List.setIfInBounds_toArray, List.set_cons_zero, List.set_cons_succ]
        refine wpAnyM_take (i := 1) [] (oi := { dst := some 54, op := Op.load 99 (Operand.tmp 5), type := 99, pos := _, after := #[], guard := none }) (v := .pointer (some ⟨B, 0, none⟩)) rfl (by kernel_rfl) (by kernel_rfl) (by kernel_rfl) (by kernel_rfl) (fun _ _ _ h => h) (Or.inl ⟨by rfl, ?_⟩) HT4.out ?_
        · (intro w' hSw; obtain ⟨m0, m1, m2⟩ := hSw; go_simp; try with_reducible rfl)
        try simp only [Act.put, List.setIfInBounds_toArray, List.set_cons_zero, List.set_cons_succ]
        refine wpAnyM_take (i := 2) [] (oi := { dst := some 55, op := Op.nilCheck (Operand.tmp 54), type := 0, pos := _, after := #[{ on := 1, ground := Ground.data }], guard := none }) (v := .pointer (some ⟨B, 0, none⟩)) rfl (by kernel_rfl) (by kernel_rfl) (by kernel_rfl) (by kernel_rfl) (fun _ _ _ h => h) (Or.inl ⟨by rfl, ?_⟩) HT4.out ?_
        · (intro w' hSw; obtain ⟨m0, m1, m2⟩ := hSw; go_simp; try with_reducible rfl)
        try simp only [Act.put, List.setIfInBounds_toArray, List.set_cons_zero, List.set_cons_succ]
        refine wpAnyM_take (i := 3) [] (oi := { dst := some 56, op := Op.fieldAddr 118 (Operand.tmp 55) 0, type := 0, pos := _, after := #[{ on := 2, ground := Ground.data }], guard := none }) (v := .pointer (some ⟨B, 0, none⟩)) rfl (by kernel_rfl) (by kernel_rfl) (by kernel_rfl) (by kernel_rfl) (fun _ _ _ h => h) (Or.inl ⟨by rfl, ?_⟩) HT4.out ?_
        · (intro w' hSw; obtain ⟨m0, m1, m2⟩ := hSw; go_simp; try with_reducible rfl)
        try simp only [Act.put, List.setIfInBounds_toArray, List.set_cons_zero, List.set_cons_succ]
        refine wpAnyM_take (i := 4) [] (oi := { dst := some 57, op := Op.load 114 (Operand.tmp 56), type := 114, pos := _, after := #[{ on := 3, ground := Ground.data }], guard := none }) (v := .slice pK nK cK) rfl (by kernel_rfl) (by kernel_rfl) (by kernel_rfl) (by kernel_rfl) (fun _ _ _ h => h) (Or.inl ⟨by rfl, ?_⟩) HT4.out ?_
        · (intro w' hSw; obtain ⟨m0, m1, m2⟩ := hSw; go_simp; try with_reducible rfl)
        try simp only [Act.put, List.setIfInBounds_toArray, List.set_cons_zero, List.set_cons_succ]
        refine wpAnyM_take (i := 5) [] (oi := { dst := some 58, op := Op.fieldAddr 30 (Operand.tmp 9) 0, type := 0, pos := _, after := #[], guard := none }) (v := .pointer (some ⟨bx, 0, none⟩)) rfl (by kernel_rfl) (by kernel_rfl) (by kernel_rfl) (by kernel_rfl) (fun _ _ _ h => h) (Or.inl ⟨by rfl, ?_⟩) HT4.out ?_
        · (intro w' hSw; obtain ⟨m0, m1, m2⟩ := hSw; go_simp; try with_reducible rfl)
        try simp only [Act.put, List.setIfInBounds_toArray, List.set_cons_zero, List.set_cons_succ]
        refine wpAnyM_take (i := 6) [] (oi := { dst := some 59, op := Op.load 9 (Operand.tmp 58), type := 9, pos := _, after := #[{ on := 5, ground := Ground.data }], guard := none }) (v := .string xe.key) rfl (by kernel_rfl) (by kernel_rfl) (by kernel_rfl) (by kernel_rfl) (fun _ _ _ h => h) (Or.inl ⟨by rfl, ?_⟩) HT4.out ?_
        · (intro w' hSw; obtain ⟨m0, m1, m2⟩ := hSw; go_simp; try with_reducible rfl)
        try simp only [Act.put, List.setIfInBounds_toArray, List.set_cons_zero, List.set_cons_succ]
        refine wpAnyM_ready (rs := [7]) (by kernel_rfl) (by simp) ?_
        refine AllReadyM.cons (o := { dst := some 60, op := Op.buildSlice 114 1 #[(0, Operand.tmp 59)], type := 114, pos := _, after := #[{ on := 6, ground := Ground.data }], guard := none }) rfl (fun K hK => ?_) AllReadyM.nil
        have HK9 : Hid (∀ a w, _ → K a w) := hK
        clear hK
        go_simp
        refine HK9.out _ _ ⟨fun _ => HT5.out, ?_⟩
        clear HK9 K
        try simp only [Act.put, List.setIfInBounds_toArray, List.set_cons_zero, List.set_cons_succ]
        refine wpAnyM_ready (rs := [8]) (by kernel_rfl) (by simp) ?_
        refine AllReadyM.cons (o := { dst := some 61, op := Op.call { callee := Callee.builtin Builtin.append, args := #[Operand.tmp 57, Operand.tmp 60], argTypes := #[114, 114] }, type := 114, pos := _, after := #[{ on := 4, ground := Ground.data }, { on := 7, ground := Ground.data }], guard := none }) rfl (fun K hK => ?_) AllReadyM.nil
        have HK9 : Hid (∀ a w, _ → K a w) := hK
        clear hK
        refine step_appR rfl _ _ _ rfl _ _ rfl rfl HR5.out ?_
        refine HK9.out _ _ ⟨fun _ => HT6.out, ?_⟩
        clear HK9 K
        try simp only [Act.put, List.setIfInBounds_toArray, List.set_cons_zero, List.set_cons_succ]
        refine wpAnyM_take (i := 9) [10] (oi := { dst := some 62, op := Op.nilCheck (Operand.tmp 53), type := 0, pos := _, after := #[{ on := 0, ground := Ground.data }, { on := 0, ground := Ground.phase }, { on := 1, ground := Ground.phase }, { on := 2, ground := Ground.phase }, { on := 3, ground := Ground.phase }, { on := 4, ground := Ground.phase }, { on := 5, ground := Ground.phase }, { on := 6, ground := Ground.phase }, { on := 7, ground := Ground.phase }, { on := 8, ground := Ground.phase }], guard := none }) (v := .pointer (some ⟨B, 0, none⟩)) rfl (by kernel_rfl) (by kernel_rfl) (by kernel_rfl) (by kernel_rfl) (fun _ _ _ h => h) (Or.inl ⟨by rfl, ?_⟩) HT6.out ?_
        · (intro w' hSw; obtain ⟨m0, m1, m2⟩ := hSw; go_simp; try with_reducible rfl)
        try simp only [Act.put, List.setIfInBounds_toArray, List.set_cons_zero, List.set_cons_succ]
        refine wpAnyM_take (i := 10) [] (oi := { dst := some 63, op := Op.fieldAddr 118 (Operand.tmp 62) 0, type := 0, pos := _, after := #[{ on := 9, ground := Ground.data }, { on := 0, ground := Ground.phase }, { on := 1, ground := Ground.phase }, { on := 2, ground := Ground.phase }, { on := 3, ground := Ground.phase }, { on := 4, ground := Ground.phase }, { on := 5, ground := Ground.phase }, { on := 6, ground := Ground.phase }, { on := 7, ground := Ground.phase }, { on := 8, ground := Ground.phase }], guard := none }) (v := .pointer (some ⟨B, 0, none⟩)) rfl (by kernel_rfl) (by kernel_rfl) (by kernel_rfl) (by kernel_rfl) (fun _ _ _ h => h) (Or.inl ⟨by rfl, ?_⟩) HT6.out ?_
        · (intro w' hSw; obtain ⟨m0, m1, m2⟩ := hSw; go_simp; try with_reducible rfl)
        try simp only [Act.put, List.setIfInBounds_toArray, List.set_cons_zero, List.set_cons_succ]
        refine wpAnyM_ready (rs := [11]) (by kernel_rfl) (by simp) ?_
        refine AllReadyM.cons (o := { dst := none, op := Op.store 114 (Operand.tmp 63) (Operand.tmp 61), type := 0, pos := _, after := #[{ on := 10, ground := Ground.data }, { on := 8, ground := Ground.data }, { on := 8, ground := Ground.chain }, { on := 0, ground := Ground.phase }, { on := 1, ground := Ground.phase }, { on := 2, ground := Ground.phase }, { on := 3, ground := Ground.phase }, { on := 4, ground := Ground.phase }, { on := 5, ground := Ground.phase }, { on := 6, ground := Ground.phase }, { on := 7, ground := Ground.phase }, { on := 8, ground := Ground.phase }], guard := none }) rfl (fun K hK => ?_) AllReadyM.nil
        have HK9 : Hid (∀ a w, _ → K a w) := hK
        clear hK
        go_simp
        refine HK9.out _ _ ⟨fun h => absurd h (by decide), ?_⟩
        clear HK9 K
        try simp only [Act.put, List.setIfInBounds_toArray, List.set_cons_zero, List.set_cons_succ]
        refine wpAnyM_done (by kernel_rfl) ?_ _
        refine NoPanic.normal ?_
        go_wp2
        exact ⟨⟨j + 1, by omega, by go_num, HE.out.1, HE.out.2⟩, by simp [intOf]; omega⟩
      · have hli : ¬ (j : Int) < (nR : Int) := by omega
        obtain ⟨vK, hN⟩ := HW.out
        have hjE : j = nR := by omega
        rw [hjE, List.take_of_length_le (by omega)] at hN
        have hss : textsOf ds ++ row.map (fun e => e.key.toList) = allTexts pl ds := by unfold allTexts; rw [HROW.out]
        rw [hss] at hN
        have hb2 : (allTexts pl ds).length ≤ 8796093022207 := by have := HR0.out.2; omega
        have hb3 := HR0.out.2
        obtain ⟨pK, nK, cK, hvK⟩ : ∃ p n c, vK = .slice p n c := by
          rcases (hN.cl.row 0 _ rfl).2 with ⟨h1, h2⟩ | ⟨g, c, cur, h1, _⟩
          · exact ⟨none, 0, 0, h1⟩
          · exact ⟨_, _, c, h1⟩
        subst hvK
        have p0 : wr.cell? ⟨PP, 0, none⟩ = some (.pointer (some ⟨B, 0, none⟩)) := hN.bx.cell 0
        have x0 : wr.cell? ⟨B, 0, none⟩ = some (.slice pK nK cK) := hN.cl.blk.cell 0
        have HN : Hid (Nd w wr B PP 0 (allTexts pl ds) row (.slice pK nK cK) (.slice pR nR cR)) := hN
        clear hN HW hlt hj hjE hss
        go_wp2_with fail
        refine (dsort_any (HN.out.cl.row 0 _ rfl) hb2).mono ?_
        rintro e w4 ⟨rfl, ho4, hg4⟩
        have hNw0 : Nwd w wr B PP D (ndVals (.slice pK nK cK) (.slice pR nR cR)) (ndRows (allTexts pl ds) row (.slice pK nK cK) (.slice pR nR cR)) := ⟨HN.out.cl, HN.out.bx, ⟨HN.out.np.1, fun i r hi => by
          match i, hi with
          | 0, hi => cases hi; exact fun e => HN.out.np.2 PP (.inl e) rfl
          | 1, hi => cases hi; exact fun e => HN.out.np.2 PP (.inr e) rfl
          | n + 2, hi => simp [ndRows] at hi⟩, HDr.out, HN.out.below⟩
        have hNw4 := hNw0.app (i := 0) rfl hg4 ho4 (.inl rfl)
        obtain ⟨ts, hts⟩ : ∃ ts, (allTexts pl ds).mergeSort (fun x y => decide (x ≤ y)) = ts := ⟨_, rfl⟩
        have htl : ts.length = (allTexts pl ds).length := by rw [← hts]; simp
        have hks : compact ts = keysOf (allTexts pl ds) := by rw [← hts]; rfl
        rw [hts] at hNw4
        have HN4 : Hid (Nwd w w4 B PP D (ndVals (.slice pK nK cK) (.slice pR nR cR)) [⟨9, 1, .slice pK nK cK, ts.length, ts.map encStr⟩, ⟨30, 4, .slice pR nR cR, row.length, flatE row⟩]) := by rw [htl]; exact hNw4
        have hN4d := HN4.out.still (Tn.drew (Tn.refl [] w4))
        have HC4 : Hid (w4.drew.cell? ⟨PP, 0, none⟩ = some (.pointer (some ⟨B, 0, none⟩)) ∧ w4.drew.cell? ⟨B, 0, none⟩ = some (.slice pK nK cK)) := ⟨hN4d.bx.cell 0, hN4d.cl.blk.cell 0⟩
        have HD4 : Hid (Nwd w w4.drew B PP D (ndVals (.slice pK nK cK) (.slice pR nR cR)) [⟨9, 1, .slice pK nK cK, ts.length, ts.map encStr⟩, ⟨30, 4, .slice pR nR cR, row.length, flatE row⟩]) := hN4d
        clear hNw0 hNw4 ho4 hg4 p0 x0 hN4d hts
        go_wp2_with fail
        refine wp_mono (Q := NoPanic _) ?_ NoPanic.imp
        refine wp_region_mid (S := (fun w' => w'.cell? ⟨PP, 0, none⟩ = some (.pointer (some ⟨B, 0, none⟩)) ∧ w'.cell? ⟨B, 0, none⟩ = some (.slice pK nK cK))) 8 (by kernel_rfl) ?_
        refine wpAnyM_take (i := 0) [] (oi := { dst := some 70, op := Op.load 99 (Operand.tmp 5), type := 99, pos := _, after := #[], guard := none }) (v := .pointer (some ⟨B, 0, none⟩)) rfl (by kernel_rfl) (by kernel_rfl) (by kernel_rfl) (by kernel_rfl) (fun _ _ _ h => h) (Or.inl ⟨by rfl, ?_⟩) HC4.out ?_
        · (intro w' hSw; obtain ⟨m0, m1⟩ := hSw; go_simp; try with_reducible rfl)
        try simp only [Act.put, List.setIfInBounds_toArray, List.set_cons_zero, List.set_cons_succ]
        refine wpAnyM_take (i := 1) [] (oi := { dst := some 71, op := Op.load 99 (Operand.tmp 5), type := 99, pos := _, after := #[], guard := none }) (v := .pointer (some ⟨B, 0, none⟩)) rfl (by kernel_rfl) (by kernel_rfl) (by kernel_rfl) (by kernel_rfl) (fun _ _ _ h => h) (Or.inl ⟨by rfl, ?_⟩) HC4.out ?_
        · (intro w' hSw; obtain ⟨m0, m1⟩ := hSw; go_simp; try with_reducible rfl)
        try simp only [Act.put, List.setIfInBounds_toArray, List.set_cons_zero, List.set_cons_succ]
        refine wpAnyM_take (i := 2) [] (oi := { dst := some 72, op := Op.nilCheck (Operand.tmp 71), type := 0, pos := _, after := #[{ on := 1, ground := Ground.data }], guard := none }) (v := .pointer (some ⟨B, 0, none⟩)) rfl (by kernel_rfl) (by kernel_rfl) (by kernel_rfl) (by kernel_rfl) (fun _ _ _ h => h) (Or.inl ⟨by rfl, ?_⟩) HC4.out ?_
        · (intro w' hSw; obtain ⟨m0, m1⟩ := hSw; go_simp; try with_reducible rfl)
        try simp only [Act.put, List.setIfInBounds_toArray, List.set_cons_zero, List.set_cons_succ]
        refine wpAnyM_take (i := 3) [] (oi := { dst := some 73, op := Op.fieldAddr 118 (Operand.tmp 72) 0, type := 0, pos := _, after := #[{ on := 2, ground := Ground.data }], guard := none }) (v := .pointer (some ⟨B, 0, none⟩)) rfl (by kernel_rfl) (by kernel_rfl) (by kernel_rfl) (by kernel_rfl) (fun _ _ _ h => h) (Or.inl ⟨by rfl, ?_⟩) HC4.out ?_
        · (intro w' hSw; obtain ⟨m0, m1⟩ := hSw; go_simp; try with_reducible rfl)
        try simp only [Act.put, List.setIfInBounds_toArray, List.set_cons_zero, List.set_cons_succ]
        refine wpAnyM_take (i := 4) [] (oi := { dst := some 74, op := Op.load 114 (Operand.tmp 73), type := 114, pos := _, after := #[{ on := 3, ground := Ground.data }], guard := none }) (v := .slice pK nK cK) rfl (by kernel_rfl) (by kernel_rfl) (by kernel_rfl) (by kernel_rfl) (fun _ _ _ h => h) (Or.inl ⟨by rfl, ?_⟩) HC4.out ?_
        · (intro w' hSw; obtain ⟨m0, m1⟩ := hSw; go_simp; try with_reducible rfl)
        try simp only [Act.put, List.setIfInBounds_toArray, List.set_cons_zero, List.set_cons_succ]
        refine wpAnyM_ready (rs := [5]) (by kernel_rfl) (by simp) ?_
        refine AllReadyM.cons (o := { dst := some 75, op := Op.call { callee := Callee.value (Operand.func 95), args := #[Operand.tmp 74], argTypes := #[114] }, type := 114, pos := _, after := #[{ on := 4, ground := Ground.data }], guard := none }) rfl (fun K hK => ?_) AllReadyM.nil
        have HK9 : Hid (∀ a w, _ → K a w) := hK
        clear hK
        go_simp
        refine (dcompact_any (HD4.out.cl.row 0 _ rfl) (by rw [htl]; exact hb2)).mono ?_
        rintro e w5 ⟨v5, rfl, ho5, hg5, hv5⟩
        obtain ⟨p5, n5, c5, hv5e⟩ : ∃ p n c, v5 = .slice p n c := by
          rcases ho5.2 with ⟨h1, h2⟩ | ⟨g, c, cur, h1, _⟩
          · exact ⟨none, 0, 0, h1⟩
          · exact ⟨_, _, c, h1⟩
        subst hv5e
        have hN5 := HD4.out.app (i := 0) rfl hg5 ho5 (.inl hv5)
        rw [hks] at hN5
        have HC5 : Hid (w5.cell? ⟨PP, 0, none⟩ = some (.pointer (some ⟨B, 0, none⟩)) ∧ w5.cell? ⟨B, 0, none⟩ = some (.slice pK nK cK)) := ⟨hN5.bx.cell 0, hN5.cl.blk.cell 0⟩
        have y0 : w5.cell? ⟨B, 0, none⟩ = some (.slice pK nK cK) := HC5.out.2
        have f0 : w5.frozen? ⟨B, 0, none⟩ = false := hN5.cl.blk.frozen 0
        have HN6 : Hid (Nwd w (w5.setCell ⟨B, 0, none⟩ (.slice p5 n5 c5)) B PP D #[.slice p5 n5 c5, .slice pR nR cR, .int .i64 0, nilS, nilS, nilS, nilS, nilS, nilS, nilS] [⟨9, 1, .slice p5 n5 c5, (keysOf (allTexts pl ds)).length, (keysOf (allTexts pl ds)).map encStr⟩, ⟨30, 4, .slice pR nR cR, row.length, flatE row⟩]) := hN5.put 0 (.slice p5 n5 c5)
        clear hN5 ho5 hg5 hv5
        refine HK9.out _ _ ⟨fun _ => HC5.out, ?_⟩
        clear HK9 K
        try simp only [Act.put, List.setIfInBounds_toArray, List.set_cons_zero, List.set_cons_succ]
        refine wpAnyM_take (i := 6) [7] (oi := { dst := some 76, op := Op.nilCheck (Operand.tmp 70), type := 0, pos := _, after := #[{ on := 0, ground := Ground.data }, { on := 0, ground := Ground.phase }, { on := 1, ground := Ground.phase }, { on := 2, ground := Ground.phase }, { on := 3, ground := Ground.phase }, { on := 4, ground := Ground.phase }, { on := 5, ground := Ground.phase }], guard := none }) (v := .pointer (some ⟨B, 0, none⟩)) rfl (by kernel_rfl) (by kernel_rfl) (by kernel_rfl) (by kernel_rfl) (fun _ _ _ h => h) (Or.inl ⟨by rfl, ?_⟩) HC5.out ?_
        · (intro w' hSw; obtain ⟨m0, m1⟩ := hSw; go_simp; try with_reducible rfl)
        try simp only [Act.put, List.setIfInBounds_toArray, List.set_cons_zero, List.set_cons_succ]
        refine wpAnyM_take (i := 7) [] (oi := { dst := some 77, op := Op.fieldAddr 118 (Operand.tmp 76) 0, type := 0, pos := _, after := #[{ on := 6, ground := Ground.data }, { on := 0, ground := Ground.phase }, { on := 1, ground := Ground.phase }, { on := 2, ground := Ground.phase }, { on := 3, ground := Ground.phase }, { on := 4, ground := Ground.phase }, { on := 5, ground := Ground.phase }], guard := none }) (v := .pointer (some ⟨B, 0, none⟩)) rfl (by kernel_rfl) (by kernel_rfl) (by kernel_rfl) (by kernel_rfl) (fun _ _ _ h => h) (Or.inl ⟨by rfl, ?_⟩) HC5.out ?_
        · (intro w' hSw; obtain ⟨m0, m1⟩ := hSw; go_simp; try with_reducible rfl)
        try simp only [Act.put, List.setIfInBounds_toArray, List.set_cons_zero, List.set_cons_succ]
        refine wpAnyM_ready (rs := [8]) (by kernel_rfl) (by simp) ?_
        refine AllReadyM.cons (o := { dst := none, op := Op.store 114 (Operand.tmp 77) (Operand.tmp 75), type := 0, pos := _, after := #[{ on := 7, ground := Ground.data }, { on := 5, ground := Ground.data }, { on := 5, ground := Ground.chain }, { on := 0, ground := Ground.phase }, { on := 1, ground := Ground.phase }, { on := 2, ground := Ground.phase }, { on := 3, ground := Ground.phase }, { on := 4, ground := Ground.phase }, { on := 5, ground := Ground.phase }], guard := none }) rfl (fun K hK => ?_) AllReadyM.nil
        have HK9 : Hid (∀ a w, _ → K a w) := hK
        clear hK
        go_simp
        refine HK9.out _ _ ⟨fun h => absurd h (by decide), ?_⟩
        clear HK9 K
        try simp only [Act.put, List.setIfInBounds_toArray, List.set_cons_zero, List.set_cons_succ]
        refine wpAnyM_done (by kernel_rfl) ?_ _
        refine NoPanic.normal ?_
        obtain ⟨ks, hksE⟩ : ∃ ks, keysOf (allTexts pl ds) = ks := ⟨_, rfl⟩
        have hrise : Rise ks := by rw [← hksE]; exact (keysOf_facts _).1
        have hkmem : ∀ e ∈ row, kw ks e.key := fun e he => by
          rw [← hksE]
          refine (keysOf_facts _).2 _ ?_
          unfold allTexts
          rw [HROW.out]
          exact List.mem_append_right _ (List.mem_map.2 ⟨e, he, rfl⟩)
        have hklen : ks.length ≤ 7036874417766 := by
          have := keysOf_len (allTexts pl ds)
          rw [hksE] at this
          omega
        rw [hksE] at HN6
        have HKS : Hid (keysOf (allTexts pl ds) = ks) := hksE
        clear hksE hks htl HD4 HN4 HC4 HC5 y0 f0
        obtain ⟨K, hK⟩ : ∃ K, ks.length = K := ⟨_, rfl⟩
        rw [hK] at HN6 hklen
        rw [hnRl] at HN6
        obtain ⟨w6, hw6⟩ : ∃ w6, w5.setCell ⟨B, 0, none⟩ (.slice p5 n5 c5) = w6 := ⟨_, rfl⟩
        rw [hw6] at HN6
        obtain ⟨pR5, hn5⟩ : ∃ p, Value.slice p5 n5 c5 = .slice p K c5 := by
          rcases (HN6.out.cl.row 0 _ rfl).2 with ⟨h1, h2⟩ | ⟨g, c, cur, h1, _⟩
          · simp only at h1 h2; cases h1; exact ⟨none, by rw [h2]⟩
          · simp only at h1; cases h1; exact ⟨_, rfl⟩
        simp only [Value.slice.injEq] at hn5
        obtain ⟨hp5, hn5, -⟩ := hn5
        subst hp5
        subst hn5
        have q0 : w6.cell? ⟨PP, 0, none⟩ = some (.pointer (some ⟨B, 0, none⟩)) := HN6.out.bx.cell 0
        go_wp2_with fail
        refine (link_any HN6.out.cl hK hnRl hrise hkmem (by omega) (by omega)).mono ?_
        rintro e w7 ⟨rfl, ⟨gk, gn, gf, hc7⟩, ht7⟩
        have HN7 : Hid (Nwd w w7 B PP D #[.slice p5 n5 c5, .slice pR nR cR, .int .i64 0, sl gk nR nR, sl gn nR nR, sl gf n5 n5, nilS, nilS, nilS, nilS] [⟨9, 1, .slice p5 n5 c5, n5, ks.map encStr⟩, ⟨30, 4, .slice pR nR cR, nR, flatE row⟩, ⟨3, 1, sl gk nR nR, nR, ints (ofs (knOf ks row))⟩, ⟨3, 1, sl gn nR nR, nR, ints (ofs (nxOf (knOf ks row)))⟩, ⟨3, 1, sl gf n5 n5, n5, ints (ofs (fsOf (knOf ks row) n5 0))⟩]) := by
          have hbx7 := HN6.out.bx.tn ht7 (by simp; exact Ne.symm HN6.out.np.1)
          refine ⟨hc7, hbx7, ⟨HN6.out.np.1, fun i r hi => ?_⟩, (ht7.block D (Array.getElem?_eq_some_iff.1 HN6.out.dd).1 (by simp; exact dd_ne HN6.out.dd HN6.out.cl.blk rfl)).trans HN6.out.dd, HN6.out.below.trans (ht7.below HN6.out.below.size (by simp; exact HN6.out.cl.ge))⟩
          have hrow := hc7.row i r hi
          cases hv : r.v.ownBlock with
          | none => simp
          | some k =>
            rw [← hv]
            refine bk_ne_row hbx7 hrow hv ?_
            match i, hi with
            | 0, hi => cases hi; show (99 : Nat) ≠ 9; decide
            | 1, hi => cases hi; show (99 : Nat) ≠ 30; decide
            | 2, hi => cases hi; show (99 : Nat) ≠ 3; decide
            | 3, hi => cases hi; show (99 : Nat) ≠ 3; decide
            | 4, hi => cases hi; show (99 : Nat) ≠ 3; decide
            | n + 5, hi => simp at hi
        clear hc7 ht7 q0 hw6 HN6
        have p0 : w7.cell? ⟨PP, 0, none⟩ = some (.pointer (some ⟨B, 0, none⟩)) := HN7.out.bx.cell 0
        have x1 : w7.cell? ⟨B, 1, none⟩ = some (.slice pR nR cR) := HN7.out.cl.blk.cell 1
        have hN9 := HN7.out.still (Tn.drew (Tn.refl [] w7))
        have HNd : Hid (Nwd w w7.drew B PP D #[.slice p5 n5 c5, .slice pR nR cR, .int .i64 0, sl gk nR nR, sl gn nR nR, sl gf n5 n5, nilS, nilS, nilS, nilS] [⟨9, 1, .slice p5 n5 c5, n5, ks.map encStr⟩, ⟨30, 4, .slice pR nR cR, nR, flatE row⟩, ⟨3, 1, sl gk nR nR, nR, ints (ofs (knOf ks row))⟩, ⟨3, 1, sl gn nR nR, nR, ints (ofs (nxOf (knOf ks row)))⟩, ⟨3, 1, sl gf n5 n5, n5, ints (ofs (fsOf (knOf ks row) n5 0))⟩]) := hN9
        clear hN9
        go_wp2_with fail
        refine wp_mono (Q := NoPanic _) ?_ NoPanic.imp
        go_region_held3 (fun w' => w'.cell? ⟨PP, 0, none⟩ = some (.pointer (some ⟨B, 0, none⟩)) ∧ w'.cell? ⟨B, 1, none⟩ = some (.slice pR nR cR)) (go_keep) (first | (go_at_call 97; refine (newPeaks_any nR (by omega) w7.drew).mono ?_; rintro e w9 ⟨n1, t1, D1, rfl, hI9, hl9, hi9, hr9, hb9, hB9⟩; have hN9 := HNd.out.add (Tn.of_below hB9 []) (r := ⟨3, 1, sl w7.heap.size n1 n1, n1, ints t1⟩) (g := w7.heap.size) (by (have h2 := hI9; unfold Ir at h2; rw [hl9] at h2; exact row_mono h2 HNd.out.below.size)) rfl (Nat.le_refl _); have q0 : w9.cell? ⟨PP, 0, none⟩ = some (.pointer (some ⟨B, 0, none⟩)) := hN9.bx.cell 0; have q1 : w9.cell? ⟨B, 1, none⟩ = some (.slice pR nR cR) := hN9.cl.blk.cell 1; have y6 : w9.cell? ⟨B, 6, none⟩ = some nilS := hN9.cl.blk.cell 6; have f6 : w9.frozen? ⟨B, 6, none⟩ = false := hN9.cl.blk.frozen 6; have r0 : ∀ u, (w9.setCell ⟨B, 6, none⟩ u).cell? ⟨PP, 0, none⟩ = some (.pointer (some ⟨B, 0, none⟩)) := fun u => (hN9.put 6 u).bx.cell 0; have r1 : ∀ u, (w9.setCell ⟨B, 6, none⟩ u).cell? ⟨B, 1, none⟩ = some (.slice pR nR cR) := fun u => (hN9.put 6 u).cl.blk.cell 1))
        refine NoPanic.normal ?_
        have hN10 := hN9.put 6 (sl w7.heap.size n1 n1)
        obtain ⟨gt, hgt⟩ : ∃ g, w7.heap.size = g := ⟨_, rfl⟩
        obtain ⟨w8, hW2⟩ : ∃ W2, w9.setCell ⟨B, 6, none⟩ (sl w7.heap.size n1 n1) = W2 := ⟨_, rfl⟩
        rw [hW2] at hN10 ⊢
        rw [hgt] at hN10 ⊢
        have HN8 : Hid (Nwd w w8 B PP D #[.slice p5 n5 c5, .slice pR nR cR, .int .i64 0, sl gk nR nR, sl gn nR nR, sl gf n5 n5, sl gt n1 n1, nilS, nilS, nilS] [⟨9, 1, .slice p5 n5 c5, n5, ks.map encStr⟩, ⟨30, 4, .slice pR nR cR, nR, flatE row⟩, ⟨3, 1, sl gk nR nR, nR, ints (ofs (knOf ks row))⟩, ⟨3, 1, sl gn nR nR, nR, ints (ofs (nxOf (knOf ks row)))⟩, ⟨3, 1, sl gf n5 n5, n5, ints (ofs (fsOf (knOf ks row) n5 0))⟩, ⟨3, 1, sl gt n1 n1, n1, ints t1⟩]) := hN10
        have HP1 : Hid (t1.length = n1 ∧ Pk.Is t1 D1 (Pk.upd (fun _ => 0) nR 9223372036854775807) ∧ nR < 2 ^ D1 ∧ n1 ≤ 35184372088832) := ⟨hl9, hi9, hr9, hb9⟩
        clear hN9 hN10 hI9 hl9 hi9 hr9 hb9 hB9 q0 q1 y6 f6 r0 r1 p0 x1 hW2 hgt HNd HN7
        have p0 : w8.cell? ⟨PP, 0, none⟩ = some (.pointer (some ⟨B, 0, none⟩)) := HN8.out.bx.cell 0
        have x1 : w8.cell? ⟨B, 0, none⟩ = some (.slice p5 n5 c5) := HN8.out.cl.blk.cell 0
        obtain ⟨w9, hmk, hN9⟩ := HN8.out.makeE n5 (by omega)
        have q0 : w9.cell? ⟨PP, 0, none⟩ = some (.pointer (some ⟨B, 0, none⟩)) := hN9.bx.cell 0
        have q1 : w9.cell? ⟨B, 0, none⟩ = some (.slice p5 n5 c5) := hN9.cl.blk.cell 0
        have y6 : w9.cell? ⟨B, 7, none⟩ = some nilS := hN9.cl.blk.cell 7
        have f6 : w9.frozen? ⟨B, 7, none⟩ = false := hN9.cl.blk.frozen 7
        go_wp2_with fail
        refine wp_mono (Q := NoPanic _) ?_ NoPanic.imp
        go_region
        refine NoPanic.normal ?_
        have hN10 := hN9.put 7 (sl w8.heap.size n5 n5)
        obtain ⟨ga, hga⟩ : ∃ g, w8.heap.size = g := ⟨_, rfl⟩
        obtain ⟨w10, hW2⟩ : ∃ W2, w9.setCell ⟨B, 7, none⟩ (sl w8.heap.size n5 n5) = W2 := ⟨_, rfl⟩
        rw [hW2] at hN10 ⊢
        rw [hga] at hN10 ⊢
        have HN10 : Hid (Nwd w w10 B PP D #[.slice p5 n5 c5, .slice pR nR cR, .int .i64 0, sl gk nR nR, sl gn nR nR, sl gf n5 n5, sl gt n1 n1, sl ga n5 n5, nilS, nilS] [⟨9, 1, .slice p5 n5 c5, n5, ks.map encStr⟩, ⟨30, 4, .slice pR nR cR, nR, flatE row⟩, ⟨3, 1, sl gk nR nR, nR, ints (ofs (knOf ks row))⟩, ⟨3, 1, sl gn nR nR, nR, ints (ofs (nxOf (knOf ks row)))⟩, ⟨3, 1, sl gf n5 n5, n5, ints (ofs (fsOf (knOf ks row) n5 0))⟩, ⟨3, 1, sl gt n1 n1, n1, ints t1⟩, ⟨30, 4, sl ga n5 n5, n5, flatE (List.replicate n5 En.zero)⟩]) := hN10
        clear hN9 hN10 hmk p0 x1 q0 q1 y6 f6 hW2 hga
        have p0 : w10.cell? ⟨PP, 0, none⟩ = some (.pointer (some ⟨B, 0, none⟩)) := HN10.out.bx.cell 0
        have x1 : w10.cell? ⟨B, 0, none⟩ = some (.slice p5 n5 c5) := HN10.out.cl.blk.cell 0
        obtain ⟨w9, hmk, hN9⟩ := HN10.out.makeI n5 (by omega)
        have q0 : w9.cell? ⟨PP, 0, none⟩ = some (.pointer (some ⟨B, 0, none⟩)) := hN9.bx.cell 0
        have q1 : w9.cell? ⟨B, 0, none⟩ = some (.slice p5 n5 c5) := hN9.cl.blk.cell 0
        have y6 : w9.cell? ⟨B, 8, none⟩ = some nilS := hN9.cl.blk.cell 8
        have f6 : w9.frozen? ⟨B, 8, none⟩ = false := hN9.cl.blk.frozen 8
        go_wp2_with fail
        refine wp_mono (Q := NoPanic _) ?_ NoPanic.imp
        go_region
        refine NoPanic.normal ?_
        have hN10 := hN9.put 8 (sl w10.heap.size n5 n5)
        obtain ⟨gg, hgg⟩ : ∃ g, w10.heap.size = g := ⟨_, rfl⟩
        obtain ⟨w11, hW2⟩ : ∃ W2, w9.setCell ⟨B, 8, none⟩ (sl w10.heap.size n5 n5) = W2 := ⟨_, rfl⟩
        rw [hW2] at hN10 ⊢
        rw [hgg] at hN10 ⊢
        have HN11 : Hid (Nwd w w11 B PP D #[.slice p5 n5 c5, .slice pR nR cR, .int .i64 0, sl gk nR nR, sl gn nR nR, sl gf n5 n5, sl gt n1 n1, sl ga n5 n5, sl gg n5 n5, nilS] [⟨9, 1, .slice p5 n5 c5, n5, ks.map encStr⟩, ⟨30, 4, .slice pR nR cR, nR, flatE row⟩, ⟨3, 1, sl gk nR nR, nR, ints (ofs (knOf ks row))⟩, ⟨3, 1, sl gn nR nR, nR, ints (ofs (nxOf (knOf ks row)))⟩, ⟨3, 1, sl gf n5 n5, n5, ints (ofs (fsOf (knOf ks row) n5 0))⟩, ⟨3, 1, sl gt n1 n1, n1, ints t1⟩, ⟨30, 4, sl ga n5 n5, n5, flatE (List.replicate n5 En.zero)⟩, ⟨3, 1, sl gg n5 n5, n5, ints (List.replicate n5 0)⟩]) := hN10
        clear hN9 hN10 hmk p0 x1 q0 q1 y6 f6 hW2 hgg
        have p0 : w11.cell? ⟨PP, 0, none⟩ = some (.pointer (some ⟨B, 0, none⟩)) := HN11.out.bx.cell 0
        have x1 : w11.cell? ⟨B, 0, none⟩ = some (.slice p5 n5 c5) := HN11.out.cl.blk.cell 0
        have hN9 := HN11.out.still (Tn.drew (Tn.refl [] w11))
        have HNd : Hid (Nwd w w11.drew B PP D #[.slice p5 n5 c5, .slice pR nR cR, .int .i64 0, sl gk nR nR, sl gn nR nR, sl gf n5 n5, sl gt n1 n1, sl ga n5 n5, sl gg n5 n5, nilS] [⟨9, 1, .slice p5 n5 c5, n5, ks.map encStr⟩, ⟨30, 4, .slice pR nR cR, nR, flatE row⟩, ⟨3, 1, sl gk nR nR, nR, ints (ofs (knOf ks row))⟩, ⟨3, 1, sl gn nR nR, nR, ints (ofs (nxOf (knOf ks row)))⟩, ⟨3, 1, sl gf n5 n5, n5, ints (ofs (fsOf (knOf ks row) n5 0))⟩, ⟨3, 1, sl gt n1 n1, n1, ints t1⟩, ⟨30, 4, sl ga n5 n5, n5, flatE (List.replicate n5 En.zero)⟩, ⟨3, 1, sl gg n5 n5, n5, ints (List.replicate n5 0)⟩]) := hN9
        clear hN9
        go_wp2_with fail
        refine wp_mono (Q := NoPanic _) ?_ NoPanic.imp
        go_region_held3 (fun w' => w'.cell? ⟨PP, 0, none⟩ = some (.pointer (some ⟨B, 0, none⟩)) ∧ w'.cell? ⟨B, 0, none⟩ = some (.slice p5 n5 c5)) (go_keep) (first | (go_at_call 97; refine (newPeaks_any n5 (by omega) w11.drew).mono ?_; rintro e w9 ⟨n2, t2, D2, rfl, hI9, hl9, hi9, hr9, hb9, hB9⟩; have hN9 := HNd.out.add (Tn.of_below hB9 []) (r := ⟨3, 1, sl w11.heap.size n2 n2, n2, ints t2⟩) (g := w11.heap.size) (by (have h2 := hI9; unfold Ir at h2; rw [hl9] at h2; exact row_mono h2 HNd.out.below.size)) rfl (Nat.le_refl _); have q0 : w9.cell? ⟨PP, 0, none⟩ = some (.pointer (some ⟨B, 0, none⟩)) := hN9.bx.cell 0; have q1 : w9.cell? ⟨B, 0, none⟩ = some (.slice p5 n5 c5) := hN9.cl.blk.cell 0; have y6 : w9.cell? ⟨B, 9, none⟩ = some nilS := hN9.cl.blk.cell 9; have f6 : w9.frozen? ⟨B, 9, none⟩ = false := hN9.cl.blk.frozen 9; have r0 : ∀ u, (w9.setCell ⟨B, 9, none⟩ u).cell? ⟨PP, 0, none⟩ = some (.pointer (some ⟨B, 0, none⟩)) := fun u => (hN9.put 9 u).bx.cell 0; have r1 : ∀ u, (w9.setCell ⟨B, 9, none⟩ u).cell? ⟨B, 0, none⟩ = some (.slice p5 n5 c5) := fun u => (hN9.put 9 u).cl.blk.cell 0))
        refine NoPanic.normal ?_
        have hN10 := hN9.put 9 (sl w11.heap.size n2 n2)
        obtain ⟨gs, hgs⟩ : ∃ g, w11.heap.size = g := ⟨_, rfl⟩
        obtain ⟨w12, hW2⟩ : ∃ W2, w9.setCell ⟨B, 9, none⟩ (sl w11.heap.size n2 n2) = W2 := ⟨_, rfl⟩
        rw [hW2] at hN10 ⊢
        rw [hgs] at hN10 ⊢
        have HN12 : Hid (Nwd w w12 B PP D #[.slice p5 n5 c5, .slice pR nR cR, .int .i64 0, sl gk nR nR, sl gn nR nR, sl gf n5 n5, sl gt n1 n1, sl ga n5 n5, sl gg n5 n5, sl gs n2 n2] [⟨9, 1, .slice p5 n5 c5, n5, ks.map encStr⟩, ⟨30, 4, .slice pR nR cR, nR, flatE row⟩, ⟨3, 1, sl gk nR nR, nR, ints (ofs (knOf ks row))⟩, ⟨3, 1, sl gn nR nR, nR, ints (ofs (nxOf (knOf ks row)))⟩, ⟨3, 1, sl gf n5 n5, n5, ints (ofs (fsOf (knOf ks row) n5 0))⟩, ⟨3, 1, sl gt n1 n1, n1, ints t1⟩, ⟨30, 4, sl ga n5 n5, n5, flatE (List.replicate n5 En.zero)⟩, ⟨3, 1, sl gg n5 n5, n5, ints (List.replicate n5 0)⟩, ⟨3, 1, sl gs n2 n2, n2, ints t2⟩]) := hN10
        have HP2 : Hid (t2.length = n2 ∧ Pk.Is t2 D2 (Pk.upd (fun _ => 0) n5 9223372036854775807) ∧ n5 < 2 ^ D2 ∧ n2 ≤ 35184372088832) := ⟨hl9, hi9, hr9, hb9⟩
        clear hN9 hN10 hI9 hl9 hi9 hr9 hb9 hB9 q0 q1 y6 f6 r0 r1 p0 x1 hW2 hgs HNd HN11
        have p0 : w12.cell? ⟨PP, 0, none⟩ = some (.pointer (some ⟨B, 0, none⟩)) := HN12.out.bx.cell 0
        go_wp2
        have hD12 := HN12.out.dd
        refine ⟨by simp, .inl ⟨_, _, rfl, run_takeDeferred hD12, ?_⟩⟩
        have hg : w12.grownBy (w12.putObj D (.deferred none)) (some D) := ⟨rfl, rfl, rfl, by simp, fun k _ hk => World.putObj_heap_other (fun e => hk (by rw [e]))⟩
        have hcl := HN12.out.cl.abides (m := 0) hg (fun r hr => by cases hr; exact ⟨Nat.zero_le _, _, hD12, rfl⟩)
        refine ⟨.pointer (some ⟨B, 0, none⟩), ?_, B, ⟨.slice p5 n5 c5, .slice pR nR cR, gk, nR, gn, nR, gf, n5, gt, n1, ga, n5, gg, n5, gs, n2⟩, rfl, ⟨t1, t2, n1, n2, D1, D2, ?_⟩, ?_⟩
        · exact results_tmp (fn := Tryz.f72) (t := 4) rfl _ _ _
        · rw [HDSE.out, HKS.out, HROW.out]
          have hF : fx0 ks row = ⟨n5, nR, knOf ks row, nxOf (knOf ks row)⟩ := by unfold fx0; rw [hK, hnRl]
          have e0 : ints (List.replicate n5 0) = ints (ofs (List.replicate n5 0)) := by simp [ofs]
          refine { cl := ?_, inv := inv0 hrise hkmem, rise := hrise, kl := rfl, l1 := HP1.out.1, l2 := HP2.out.1, i1 := ?_, i2 := ?_, r1 := ?_, r2 := ?_, b1 := HP1.out.2.2.2, b2 := HP2.out.2.2.2, bR := ?_, bK := ?_ }
          · unfold drVals drRows df0
            rw [hF, hK]
            simp only [← e0]
            exact hcl
          · have : xT (fx0 ks row) (df0 ks row) = Pk.upd (fun _ => 0) nR 9223372036854775807 := by
              funext a
              unfold xT Pk.upd th
              rw [hF]
              simp [df0]
            rw [this]
            exact HP1.out.2.1
          · have : xS (fx0 ks row) (df0 ks row) = Pk.upd (fun _ => 0) n5 9223372036854775807 := by
              funext a
              unfold xS Pk.upd
              rw [hF]
              simp [df0]
            rw [this]
            exact HP2.out.2.1
          · rw [hF]; exact HP1.out.2.2.1
          · rw [hF]; exact HP2.out.2.2.1
          · rw [hF]; show nR ≤ _; omega
          · rw [hF]; show n5 ≤ _; omega
        · refine HN12.out.below.trans ⟨rfl, rfl, rfl, by simp, fun k hk => World.putObj_heap_other (by have := HDD.out.2; omega)⟩
  case body =>
    rintro l pre x bx W hl2 hT ⟨hbx, kx⟩ hpre
    obtain ⟨vK, vR, hN, hnb⟩ := hT
    have hOk : x.2.Ok W := by
      have hx := Dl.bw_mem hpre
      obtain ⟨b, o, -, hc⟩ := HDS.out W hN.below (by have := (List.getElem?_eq_some_iff.1 hx).1; omega)
      exact (hc _ _ hx).2
    obtain ⟨xi, ⟨⟨dk, ⟨dek, des, deg, dec⟩, dkey, dpg, ⟨dleaf, dlo, dhi, dr, dl⟩⟩, dp, dn, dc⟩⟩ := x
    obtain ⟨ds, hds⟩ : ∃ ds : List De, pre.map (·.2.d) = ds := ⟨_, rfl⟩
    have hds2 : (pre ++ [(xi, (⟨⟨dk, ⟨dek, des, deg, dec⟩, dkey, dpg, ⟨dleaf, dlo, dhi, dr, dl⟩⟩, dp, dn, dc⟩ : Dm))]).map (·.2.d) = ds ++ [⟨dk, ⟨dek, des, deg, dec⟩, dkey, dpg, ⟨dleaf, dlo, dhi, dr, dl⟩⟩] := by rw [List.map_append, hds]; rfl
    have hlens : (pl ++ rowsOf ds ++ dl).length ≤ 3518437208782 ∧ (textsOf ds).length + 2 ≤ 8796093022207 := by
      obtain ⟨tl, htl⟩ := hpre
      have h1 : (L.map (·.d)).reverse = ds ++ [⟨dk, ⟨dek, des, deg, dec⟩, dkey, dpg, ⟨dleaf, dlo, dhi, dr, dl⟩⟩] ++ tl.map (·.2.d) := by
        rw [← Dl.bw_map, ← htl, List.map_append, hds2]
      have h2 := HRT.out
      have h3 := HKT.out
      unfold allTexts at h3
      rw [h1] at h2 h3
      simp only [rowsOf, textsOf, List.map_append, List.flatten_append, List.length_append, List.map_cons, List.map_nil, List.flatten_cons, List.flatten_nil, List.length_cons, List.length_nil] at h2 h3 ⊢
      omega
    rw [hds] at hN
    have hnR : ∀ k, vR.ownBlock = some k → k ≠ bx := fun k hk e => by
      rw [e] at hk
      rcases (hN.cl.row 1 _ rfl).2 with ⟨h1, _⟩ | ⟨g, c, cur, h1, _, h2, _⟩
      · have : vR = nilS := h1
        rw [this] at hk; cases hk
      · have : vR = _ := h1
        rw [this] at hk
        have hgx : g = bx := Option.some.inj hk
        rw [hgx, show W.heap[bx]? = _ from kx] at h2
        cases h2
    have hnK : ∀ k, vK.ownBlock = some k → k ≠ bx := fun k hk e => by
      rw [e] at hk
      rcases (hN.cl.row 0 _ rfl).2 with ⟨h1, _⟩ | ⟨g, c, cur, h1, _, h2, _⟩
      · have : vK = nilS := h1
        rw [this] at hk; cases hk
      · have : vK = _ := h1
        rw [this] at hk
        have hgx : g = bx := Option.some.inj hk
        rw [hgx, show W.heap[bx]? = _ from kx] at h2
        cases h2
    have hBx : B ≠ bx := by omega
    have hPx : PP ≠ bx := by omega
    obtain ⟨pR, nR, cR, hvR, hnRl⟩ : ∃ p n c, vR = .slice p n c ∧ n = (pl ++ rowsOf ds).length := by
      have h1 : OwnE W w.heap.size vR (pl ++ rowsOf ds) := hN.cl.row 1 _ rfl
      obtain ⟨q, c, hv, _, _⟩ := h1.ens
      exact ⟨q, _, c, hv, rfl⟩
    obtain ⟨pK, nK, cK, hvK, hnKl⟩ : ∃ p n c, vK = .slice p n c ∧ n = (textsOf ds).length := by
      rcases (hN.cl.row 0 _ rfl).2 with ⟨h1, h2⟩ | ⟨g, c, cur, h1, _⟩
      · exact ⟨none, 0, 0, h1, h2.symm⟩
      · exact ⟨_, _, c, h1, rfl⟩
    -- the row
    have hNd := hN.still (Tn.drew (Tn.refl [] W))
    have hkxd : Bk W.drew bx 32 #[.int .i64 dk, .string dek, .int .i64 des, .int .i64 deg, .int .i64 dec, .string dkey, .int .i64 dpg, .bool dleaf, .string dlo, .string dhi, .int .i64 dr, .slice dp dn dc] := kx
    have hensd : Ens W.drew dp dl := hOk.ens.alike (fun k hk => rfl)
    obtain ⟨v4, W1, hr4, ho4, hg4, hb4⟩ := run_appE W.drew w.heap.size 22 vR (pl ++ rowsOf ds) dl dp dn dc hOk.len hensd hOk.nil (hNd.cl.row 1 _ rfl) (by
      have h1 := hlens.1
      have h2 := hOk.len
      simp only at h2
      rw [List.length_append] at h1
      omega) hNd.below.size
    obtain ⟨p4, n4, c4, hv4⟩ : ∃ p n c, v4 = .slice p n c := by
      obtain ⟨q, c, hv, _, _⟩ := ho4.ens
      exact ⟨q, _, c, hv⟩
    subst hv4
    obtain ⟨hN2, ht2, hblk1⟩ := hNd.appR hg4 ho4 hb4
    have hkx1 : Bk W1 bx 32 #[.int .i64 dk, .string dek, .int .i64 des, .int .i64 deg, .int .i64 dec, .string dkey, .int .i64 dpg, .bool dleaf, .string dlo, .string dhi, .int .i64 dr, .slice dp dn dc] := hkxd.tn (tn_grown hg4) (fun hm => by
      cases hb : vR.ownBlock with
      | none => rw [hb] at hm; simp at hm
      | some y => rw [hb] at hm; simp at hm; exact hnR y hb hm.symm)
    have hbx1 : Bk W1 PP 99 #[.pointer (some ⟨B, 0, none⟩)] := hNd.bx.tn (tn_grown hg4) (fun hm => by
      cases hb : vR.ownBlock with
      | none => rw [hb] at hm; simp at hm
      | some y => rw [hb] at hm; simp at hm; exact hN.np.2 y (.inr hb) hm.symm)
    have hnb2 : ∀ k, vK.ownBlock = some k ∨ (Value.slice p4 n4 c4).ownBlock = some k → k ≠ w2.heap.size := fun k hk => by
      rcases hk with h | h
      · exact hnb k (.inl h)
      · rcases hb4 with h5 | h5
        · rw [h5] at h; exact hnb k (.inr h)
        · rw [h5] at h
          cases h
          have := hN.sz
          show W.drew.heap.size ≠ _
          show W.heap.size ≠ _
          omega
    have HS4 : Hid (W.drew.cell? ⟨PP, 0, none⟩ = some (.pointer (some ⟨B, 0, none⟩)) ∧ W.drew.cell? ⟨B, 1, none⟩ = some (.slice pR nR cR) ∧ W.drew.cell? ⟨bx, 11, none⟩ = some (.slice dp dn dc)) := ⟨hNd.bx.cell 0, by rw [← hvR]; exact hNd.cl.blk.cell 1, hkxd.cell 11⟩
    have HS5 : Hid (W1.cell? ⟨PP, 0, none⟩ = some (.pointer (some ⟨B, 0, none⟩)) ∧ W1.cell? ⟨B, 1, none⟩ = some (.slice pR nR cR) ∧ W1.cell? ⟨bx, 11, none⟩ = some (.slice dp dn dc)) := ⟨hbx1.cell 0, by rw [← hvR]; exact hblk1.cell 1, hkx1.cell 11⟩
    have y1 : W1.cell? ⟨B, 1, none⟩ = some (.slice pR nR cR) := HS5.out.2.1
    have f1 : W1.frozen? ⟨B, 1, none⟩ = false := hblk1.frozen 1
    rw [hvR] at hr4
    have HR4 : Hid _ := hr4
    -- the keys
    obtain ⟨W2, hW2⟩ : ∃ W2, W1.setCell ⟨B, 1, none⟩ (.slice p4 n4 c4) = W2 := ⟨_, rfl⟩
    rw [hW2] at hN2 ht2
    have ht2' : Tn (B :: vR.ownBlock.toList) W W2 := ⟨ht2.os, ht2.tape, ht2.output, ht2.size, ht2.block⟩
    have hkx2 : Bk W2 bx 32 #[.int .i64 dk, .string dek, .int .i64 des, .int .i64 deg, .int .i64 dec, .string dkey, .int .i64 dpg, .bool dleaf, .string dlo, .string dhi, .int .i64 dr, .slice dp dn dc] := by rw [← hW2]; exact hkx1.other (p := ⟨B, 1, none⟩) (Ne.symm hBx) _
    have hN2d := hN2.still (Tn.drew (Tn.refl [] W2))
    obtain ⟨W3, hW3⟩ : ∃ W3, W2.drew.alloc (.cells #[.string dkey, .string dek] 9) = W3 := ⟨_, rfl⟩
    have ht3 : Tn [] W2.drew W3 := by rw [← hW3]; exact (Tn.refl [] _).alloc _
    have hN3 := hN2d.still ht3
    have hE3 : Bk W3 W2.heap.size 9 #[.string dkey, .string dek] := by rw [← hW3]; exact Bk.new W2.drew _ _
    have hkx3 : Bk W3 bx 32 _ := (show Bk W2.drew bx 32 _ from hkx2).tn ht3 (by simp)
    obtain ⟨v5, W4, hr5, ho5, hg5, hb5⟩ := run_appS W3 w.heap.size 114 vK (textsOf ds) [dkey.toList, dek.toList] W2.heap.size 2 rfl (fun j u hu => by
      have hj : j < 2 := by have := (List.getElem?_eq_some_iff.1 hu).1; simpa using this
      rw [show (⟨W2.heap.size, 0, none⟩ : Addr).add j = ⟨W2.heap.size, j, none⟩ by unfold Addr.add; split <;> simp_all]
      rw [hE3.cell j]
      have e1 := enc_key dkey
      have e2 := enc_key dek
      match j, hj, hu with
      | 0, _, hu => simp only [List.map_cons, List.getElem?_cons_zero, Option.some.injEq] at hu; rw [← hu, e1]; rfl
      | 1, _, hu => simp only [List.map_cons, List.map_nil, List.getElem?_cons_succ, List.getElem?_cons_zero, Option.some.injEq] at hu; rw [← hu, e2]; rfl) (hN3.cl.row 0 _ rfl) (by have := hlens.2; omega) hN3.below.size
    obtain ⟨p5, n5, c5, hv5⟩ : ∃ p n c, v5 = .slice p n c := by
      rcases ho5.2 with ⟨h1, h2⟩ | ⟨g, c, cur, h1, _⟩
      · exact ⟨none, 0, 0, h1⟩
      · exact ⟨_, _, c, h1⟩
    subst hv5
    obtain ⟨hN5, ht5, hblk4⟩ := hN3.appK hg5 ho5 hb5
    have hkx4 : Bk W4 bx 32 _ := hkx3.tn (tn_grown hg5) (fun hm => by
      cases hb : vK.ownBlock with
      | none => rw [hb] at hm; simp at hm
      | some y => rw [hb] at hm; simp at hm; exact hnK y hb hm.symm)
    have hbx4 : Bk W4 PP 99 #[.pointer (some ⟨B, 0, none⟩)] := hN3.bx.tn (tn_grown hg5) (fun hm => by
      cases hb : vK.ownBlock with
      | none => rw [hb] at hm; simp at hm
      | some y => rw [hb] at hm; simp at hm; exact hN.np.2 y (.inl hb) hm.symm)
    have hnb5 : ∀ k, (Value.slice p5 n5 c5).ownBlock = some k ∨ (Value.slice p4 n4 c4).ownBlock = some k → k ≠ w2.heap.size := fun k hk => by
      rcases hk with h | h
      · rcases hb5 with h5 | h5
        · rw [h5] at h; exact hnb k (.inl h)
        · rw [h5] at h
          cases h
          have := hN3.sz
          omega
      · exact hnb2 k (.inr h)
    have HT4 : Hid (W2.drew.cell? ⟨PP, 0, none⟩ = some (.pointer (some ⟨B, 0, none⟩)) ∧ W2.drew.cell? ⟨B, 0, none⟩ = some (.slice pK nK cK) ∧ W2.drew.cell? ⟨bx, 5, none⟩ = some (.string dkey) ∧ W2.drew.cell? ⟨bx, 1, none⟩ = some (.string dek)) := ⟨hN2d.bx.cell 0, by rw [← hvK]; exact hN2d.cl.blk.cell 0, hkx2.cell 5, hkx2.cell 1⟩
    have HT5 : Hid (W3.cell? ⟨PP, 0, none⟩ = some (.pointer (some ⟨B, 0, none⟩)) ∧ W3.cell? ⟨B, 0, none⟩ = some (.slice pK nK cK) ∧ W3.cell? ⟨bx, 5, none⟩ = some (.string dkey) ∧ W3.cell? ⟨bx, 1, none⟩ = some (.string dek)) := ⟨hN3.bx.cell 0, by rw [← hvK]; exact hN3.cl.blk.cell 0, hkx3.cell 5, hkx3.cell 1⟩
    have HT6 : Hid (W4.cell? ⟨PP, 0, none⟩ = some (.pointer (some ⟨B, 0, none⟩)) ∧ W4.cell? ⟨B, 0, none⟩ = some (.slice pK nK cK) ∧ W4.cell? ⟨bx, 5, none⟩ = some (.string dkey) ∧ W4.cell? ⟨bx, 1, none⟩ = some (.string dek)) := ⟨hbx4.cell 0, by rw [← hvK]; exact hblk4.cell 0, hkx4.cell 5, hkx4.cell 1⟩
    have y0 : W4.cell? ⟨B, 0, none⟩ = some (.slice pK nK cK) := HT6.out.2.1
    have f0 : W4.frozen? ⟨B, 0, none⟩ = false := hblk4.frozen 0
    rw [hvK] at hr5
    have HR5 : Hid _ := hr5
    obtain ⟨W5, hW5⟩ : ∃ W5, W4.setCell ⟨B, 0, none⟩ (.slice p5 n5 c5) = W5 := ⟨_, rfl⟩
    rw [hW5] at hN5 ht5
    have HE : Hid ((∃ vK vR, Nd w W5 B PP w3.heap.size (textsOf (ds ++ [⟨dk, ⟨dek, des, deg, dec⟩, dkey, dpg, ⟨dleaf, dlo, dhi, dr, dl⟩⟩])) (pl ++ rowsOf (ds ++ [⟨dk, ⟨dek, des, deg, dec⟩, dkey, dpg, ⟨dleaf, dlo, dhi, dr, dl⟩⟩])) vK vR ∧ ∀ k, vK.ownBlock = some k ∨ vR.ownBlock = some k → k ≠ w2.heap.size) ∧ Tn (B :: (vR.ownBlock.toList ++ vK.ownBlock.toList)) W W5) := by
      refine ⟨⟨.slice p5 n5 c5, .slice p4 n4 c4, ?_, hnb5⟩, ?_⟩
      · rw [textsOf_snoc, rowsOf_snoc, ← List.append_assoc]
        exact hN5
      · refine Tn.trans (ht2'.mono (by intro x hx; simp only [List.mem_cons, List.mem_append] at hx ⊢; rcases hx with h | h; exact .inl h; exact .inr (.inl h))) (T := B :: (vR.ownBlock.toList ++ vK.ownBlock.toList)) ?_ (fun x hx => .inl hx)
        refine Tn.trans ((Tn.drew (Tn.refl [] W2)).mono (by simp)) (T := B :: (vR.ownBlock.toList ++ vK.ownBlock.toList)) ?_ (fun x hx => .inl hx)
        refine Tn.trans (ht3.mono (by simp)) (T := B :: (vR.ownBlock.toList ++ vK.ownBlock.toList)) ?_ (fun x hx => .inl hx)
        exact ht5.mono (by intro x hx; simp only [List.mem_cons, List.mem_append] at hx ⊢; rcases hx with h | h; exact .inl h; exact .inr (.inr h))
    have HCK : Hid (∀ y ∈ B :: (vR.ownBlock.toList ++ vK.ownBlock.toList), (∃ o : Obj, W.heap[y]? = some o ∧ o.isCells = true) ∧ w.heap.size ≤ y ∧ y ≠ w2.heap.size) := by
      intro y hy
      simp only [List.mem_cons, List.mem_append] at hy
      have hmem : ∀ (v : Value), y ∈ v.ownBlock.toList → v.ownBlock = some y := fun v hk => by
        cases hb : v.ownBlock with
        | none => rw [hb] at hk; simp at hk
        | some x => rw [hb] at hk; simp at hk; rw [hk]
      rcases hy with rfl | h | h
      · exact ⟨⟨_, hN.cl.blk, rfl⟩, hN.cl.ge, by omega⟩
      · have h1 := hmem vR h
        exact ⟨row_kind (hN.cl.row 1 _ rfl) h1, ((hN.cl.row 1 _ rfl).lt y h1).1, hnb y (.inr h1)⟩
      · have h1 := hmem vK h
        exact ⟨row_kind (hN.cl.row 0 _ rfl) h1, ((hN.cl.row 0 _ rfl).lt y h1).1, hnb y (.inl h1)⟩
    have HWS : Hid (w3.heap.size ≤ W.heap.size) := hN.sz
    have x11 : W.cell? ⟨bx, 11, none⟩ = some (.slice dp dn dc) := kx.cell 11
    clear hOk hN hNd hkxd hensd hr4 ho4 hg4 hb4 hN2 ht2 hblk1 hkx1 hbx1 ht2' hkx2 hN2d ht3 hN3 hE3 hkx3 hr5 ho5 hg5 hb5 hN5 ht5 hblk4 hkx4 hbx4 hnb2 hnb5 hnb kx hvR hvK hnRl hnKl hnR hnK x11
    gi_wp2_with fail
    refine wpIn_mid (S := (fun w' => w'.cell? ⟨PP, 0, none⟩ = some (.pointer (some ⟨B, 0, none⟩)) ∧ w'.cell? ⟨B, 1, none⟩ = some (.slice pR nR cR) ∧ w'.cell? ⟨bx, 11, none⟩ = some (.slice dp dn dc))) 11 (by kernel_rfl) (by rfl) (by rintro ⟨a, w, h⟩; exact h) ?_
    refine wpAnyM_take (i := 0) [] (oi := { dst := some 19, op := Op.load 99 (Operand.tmp 5), type := 99, pos := _, after := #[], guard := none }) (v := .pointer (some ⟨B, 0, none⟩)) rfl (by kernel_rfl) (by kernel_rfl) (by kernel_rfl) (by kernel_rfl) (fun _ _ _ h => h) (Or.inl ⟨by rfl, ?_⟩) HS4.out ?_
    · (intro w' hSw; obtain ⟨m0, m1, m2⟩ := hSw; go_simp; try with_reducible rfl)
    try simp only [Act.put, List.setIfInBounds_toArray, List.set_cons_zero, List.set_cons_succ]
    refine wpAnyM_take (i := 1) [] (oi := { dst := some 20, op := Op.load 99 (Operand.tmp 5), type := 99, pos := _, after := #[], guard := none }) (v := .pointer (some ⟨B, 0, none⟩)) rfl (by kernel_rfl) (by kernel_rfl) (by kernel_rfl) (by kernel_rfl) (fun _ _ _ h => h) (Or.inl ⟨by rfl, ?_⟩) HS4.out ?_
    · (intro w' hSw; obtain ⟨m0, m1, m2⟩ := hSw; go_simp; try with_reducible rfl)
    try simp only [Act.put, List.setIfInBounds_toArray, List.set_cons_zero, List.set_cons_succ]
    refine wpAnyM_take (i := 2) [] (oi := { dst := some 21, op := Op.nilCheck (Operand.tmp 20), type := 0, pos := _, after := #[{ on := 1, ground := Ground.data }], guard := none }) (v := .pointer (some ⟨B, 0, none⟩)) rfl (by kernel_rfl) (by kernel_rfl) (by kernel_rfl) (by kernel_rfl) (fun _ _ _ h => h) (Or.inl ⟨by rfl, ?_⟩) HS4.out ?_
    · (intro w' hSw; obtain ⟨m0, m1, m2⟩ := hSw; go_simp; try with_reducible rfl)
    try simp only [Act.put, List.setIfInBounds_toArray, List.set_cons_zero, List.set_cons_succ]
    refine wpAnyM_take (i := 3) [] (oi := { dst := some 22, op := Op.fieldAddr 118 (Operand.tmp 21) 1, type := 0, pos := _, after := #[{ on := 2, ground := Ground.data }], guard := none }) (v := .pointer (some ⟨B, 1, none⟩)) rfl (by kernel_rfl) (by kernel_rfl) (by kernel_rfl) (by kernel_rfl) (fun _ _ _ h => h) (Or.inl ⟨by rfl, ?_⟩) HS4.out ?_
    · (intro w' hSw; obtain ⟨m0, m1, m2⟩ := hSw; go_simp; try with_reducible rfl)
    try simp only [Act.put, List.setIfInBounds_toArray, List.set_cons_zero, List.set_cons_succ]
    refine wpAnyM_take (i := 4) [] (oi := { dst := some 23, op := Op.load 22 (Operand.tmp 22), type := 22, pos := _, after := #[{ on := 3, ground := Ground.data }], guard := none }) (v := .slice pR nR cR) rfl (by kernel_rfl) (by kernel_rfl) (by kernel_rfl) (by kernel_rfl) (fun _ _ _ h => h) (Or.inl ⟨by rfl, ?_⟩) HS4.out ?_
    · (intro w' hSw; obtain ⟨m0, m1, m2⟩ := hSw; go_simp; try with_reducible rfl)
    try simp only [Act.put, List.setIfInBounds_toArray, List.set_cons_zero, List.set_cons_succ]
    refine wpAnyM_take (i := 5) [] (oi := { dst := some 24, op := Op.fieldAddr 32 (Operand.tmp 7) 4, type := 0, pos := _, after := #[], guard := none }) (v := .pointer (some ⟨bx, 7, none⟩)) rfl (by kernel_rfl) (by kernel_rfl) (by kernel_rfl) (by kernel_rfl) (fun _ _ _ h => h) (Or.inl ⟨by rfl, ?_⟩) HS4.out ?_
    · (intro w' hSw; obtain ⟨m0, m1, m2⟩ := hSw; go_simp; try with_reducible rfl)
    try simp only [Act.put, List.setIfInBounds_toArray, List.set_cons_zero, List.set_cons_succ]
    refine wpAnyM_take (i := 6) [] (oi := { dst := some 25, op := Op.fieldAddr 24 (Operand.tmp 24) 4, type := 0, pos := _, after := #[{ on := 5, ground := Ground.data }], guard := none }) (v := .pointer (some ⟨bx, 11, none⟩)) rfl (by kernel_rfl) (by kernel_rfl) (by kernel_rfl) (by kernel_rfl) (fun _ _ _ h => h) (Or.inl ⟨by rfl, ?_⟩) HS4.out ?_
    · (intro w' hSw; obtain ⟨m0, m1, m2⟩ := hSw; go_simp; try with_reducible rfl)
    try simp only [Act.put, List.setIfInBounds_toArray, List.set_cons_zero, List.set_cons_succ]
    refine wpAnyM_take (i := 7) [] (oi := { dst := some 26, op := Op.load 22 (Operand.tmp 25), type := 22, pos := _, after := #[{ on := 6, ground := Ground.data }], guard := none }) (v := .slice dp dn dc) rfl (by kernel_rfl) (by kernel_rfl) (by kernel_rfl) (by kernel_rfl) (fun _ _ _ h => h) (Or.inl ⟨by rfl, ?_⟩) HS4.out ?_
    · (intro w' hSw; obtain ⟨m0, m1, m2⟩ := hSw; go_simp; try with_reducible rfl)
    try simp only [Act.put, List.setIfInBounds_toArray, List.set_cons_zero, List.set_cons_succ]
    refine wpAnyM_ready (rs := [8]) (by kernel_rfl) (by simp) ?_
    refine AllReadyM.cons (o := { dst := some 27, op := Op.call { callee := Callee.builtin Builtin.append, args := #[Operand.tmp 23, Operand.tmp 26], argTypes := #[22, 22] }, type := 22, pos := _, after := #[{ on := 4, ground := Ground.data }, { on := 7, ground := Ground.data }], guard := none }) rfl (fun K hK => ?_) AllReadyM.nil
    have HK9 : Hid (∀ a w, _ → K a w) := hK
    clear hK
    refine step_appR rfl _ _ _ rfl _ _ rfl rfl HR4.out ?_
    refine HK9.out _ _ ⟨fun _ => HS5.out, ?_⟩
    clear HK9 K
    try simp only [Act.put, List.setIfInBounds_toArray, List.set_cons_zero, List.set_cons_succ]
    refine wpAnyM_take (i := 9) [10] (oi := { dst := some 28, op := Op.nilCheck (Operand.tmp 19), type := 0, pos := _, after := #[{ on := 0, ground := Ground.data }, { on := 0, ground := Ground.phase }, { on := 1, ground := Ground.phase }, { on := 2, ground := Ground.phase }, { on := 3, ground := Ground.phase }, { on := 4, ground := Ground.phase }, { on := 5, ground := Ground.phase }, { on := 6, ground := Ground.phase }, { on := 7, ground := Ground.phase }, { on := 8, ground := Ground.phase }], guard := none }) (v := .pointer (some ⟨B, 0, none⟩)) rfl (by kernel_rfl) (by kernel_rfl) (by kernel_rfl) (by kernel_rfl) (fun _ _ _ h => h) (Or.inl ⟨by rfl, ?_⟩) HS5.out ?_
    · (intro w' hSw; obtain ⟨m0, m1, m2⟩ := hSw; go_simp; try with_reducible rfl)
    try simp only [Act.put, List.setIfInBounds_toArray, List.set_cons_zero, List.set_cons_succ]
    refine wpAnyM_take (i := 10) [] (oi := { dst := some 29, op := Op.fieldAddr 118 (Operand.tmp 28) 1, type := 0, pos := _, after := #[{ on := 9, ground := Ground.data }, { on := 0, ground := Ground.phase }, { on := 1, ground := Ground.phase }, { on := 2, ground := Ground.phase }, { on := 3, ground := Ground.phase }, { on := 4, ground := Ground.phase }, { on := 5, ground := Ground.phase }, { on := 6, ground := Ground.phase }, { on := 7, ground := Ground.phase }, { on := 8, ground := Ground.phase }], guard := none }) (v := .pointer (some ⟨B, 1, none⟩)) rfl (by kernel_rfl) (by kernel_rfl) (by kernel_rfl) (by kernel_rfl) (fun _ _ _ h => h) (Or.inl ⟨by rfl, ?_⟩) HS5.out ?_
    · (intro w' hSw; obtain ⟨m0, m1, m2⟩ := hSw; go_simp; try with_reducible rfl)
    try simp only [Act.put, List.setIfInBounds_toArray, List.set_cons_zero, List.set_cons_succ]
    refine wpAnyM_ready (rs := [11]) (by kernel_rfl) (by simp) ?_
    refine AllReadyM.cons (o := { dst := none, op := Op.store 22 (Operand.tmp 29) (Operand.tmp 27), type := 0, pos := _, after := #[{ on := 10, ground := Ground.data }, { on := 8, ground := Ground.data }, { on := 8, ground := Ground.chain }, { on := 0, ground := Ground.phase }, { on := 1, ground := Ground.phase }, { on := 2, ground := Ground.phase }, { on := 3, ground := Ground.phase }, { on := 4, ground := Ground.phase }, { on := 5, ground := Ground.phase }, { on := 6, ground := Ground.phase }, { on := 7, ground := Ground.phase }, { on := 8, ground := Ground.phase }], guard := none }) rfl (fun K hK => ?_) AllReadyM.nil
    have HK9 : Hid (∀ a w, _ → K a w) := hK
    clear hK
    go_simp
    refine HK9.out _ _ ⟨fun h => absurd h (by decide), ?_⟩
    clear HK9 K
    try simp only [Act.put, List.setIfInBounds_toArray, List.set_cons_zero, List.set_cons_succ]
    refine wpAnyM_done (by kernel_rfl) ?_ _
    gi_wp2_with fail
    clear HS4 HS5 HR4 hW2 y1 f1
    refine wpIn_mid (S := (fun w' => w'.cell? ⟨PP, 0, none⟩ = some (.pointer (some ⟨B, 0, none⟩)) ∧ w'.cell? ⟨B, 0, none⟩ = some (.slice pK nK cK) ∧ w'.cell? ⟨bx, 5, none⟩ = some (.string dkey) ∧ w'.cell? ⟨bx, 1, none⟩ = some (.string dek))) 14 (by kernel_rfl) (by rfl) (by rintro ⟨a, w, h⟩; exact h) ?_
    refine wpAnyM_take (i := 0) [] (oi := { dst := some 30, op := Op.load 99 (Operand.tmp 5), type := 99, pos := _, after := #[], guard := none }) (v := .pointer (some ⟨B, 0, none⟩)) rfl (by kernel_rfl) (by kernel_rfl) (by kernel_rfl) (by kernel_rfl) (fun _ _ _ h => h) (Or.inl ⟨by rfl, ?_⟩) HT4.out ?_
    · (intro w' hSw; obtain ⟨m0, m1, m2, m3⟩ := hSw; go_simp; try with_reducible rfl)
    try simp only [Act.put, List.setIfInBounds_toArray, List.set_cons_zero, List.set_cons_succ]
    refine wpAnyM_take (i := 1) [] (oi := { dst := some 31, op := Op.load 99 (Operand.tmp 5), type := 99, pos := _, after := #[], guard := none }) (v := .pointer (some ⟨B, 0, none⟩)) rfl (by kernel_rfl) (by kernel_rfl) (by kernel_rfl) (by kernel_rfl) (fun _ _ _ h => h) (Or.inl ⟨by rfl, ?_⟩) HT4.out ?_
    · (intro w' hSw; obtain ⟨m0, m1, m2, m3⟩ := hSw; go_simp; try with_reducible rfl)
    try simp only [Act.put, List.setIfInBounds_toArray, List.set_cons_zero, List.set_cons_succ]
    refine wpAnyM_take (i := 2) [] (oi := { dst := some 32, op := Op.nilCheck (Operand.tmp 31), type := 0, pos := _, after := #[{ on := 1, ground := Ground.data }], guard := none }) (v := .pointer (some ⟨B, 0, none⟩)) rfl (by kernel_rfl) (by kernel_rfl) (by kernel_rfl) (by kernel_rfl) (fun _ _ _ h => h) (Or.inl ⟨by rfl, ?_⟩) HT4.out ?_
    · (intro w' hSw; obtain ⟨m0, m1, m2, m3⟩ := hSw; go_simp; try with_reducible rfl)
    try simp only [Act.put, List.setIfInBounds_toArray, List.set_cons_zero, List.set_cons_succ]
    refine wpAnyM_take (i := 3) [] (oi := { dst := some 33, op := Op.fieldAddr 118 (Operand.tmp 32) 0, type := 0, pos := _, after := #[{ on := 2, ground := Ground.data }], guard := none }) (v := .pointer (some ⟨B, 0, none⟩)) rfl (by kernel_rfl) (by kernel_rfl) (by kernel_rfl) (by kernel_rfl) (fun _ _ _ h => h) (Or.inl ⟨by rfl, ?_⟩) HT4.out ?_
    · (intro w' hSw; obtain ⟨m0, m1, m2, m3⟩ := hSw; go_simp; try with_reducible rfl)
    try simp only [Act.put, List.setIfInBounds_toArray, List.set_cons_zero, List.set_cons_succ]
    refine wpAnyM_take (i := 4) [] (oi := { dst := some 34, op := Op.load 114 (Operand.tmp 33), type := 114, pos := _, after := #[{ on := 3, ground := Ground.data }], guard := none }) (v := .slice pK nK cK) rfl (by kernel_rfl) (by kernel_rfl) (by kernel_rfl) (by kernel_rfl) (fun _ _ _ h => h) (Or.inl ⟨by rfl, ?_⟩) HT4.out ?_
    · (intro w' hSw; obtain ⟨m0, m1, m2, m3⟩ := hSw; go_simp; try with_reducible rfl)
    try simp only [Act.put, List.setIfInBounds_toArray, List.set_cons_zero, List.set_cons_succ]
    refine wpAnyM_take (i := 5) [] (oi := { dst := some 35, op := Op.fieldAddr 32 (Operand.tmp 7) 2, type := 0, pos := _, after := #[], guard := none }) (v := .pointer (some ⟨bx, 5, none⟩)) rfl (by kernel_rfl) (by kernel_rfl) (by kernel_rfl) (by kernel_rfl) (fun _ _ _ h => h) (Or.inl ⟨by rfl, ?_⟩) HT4.out ?_
    · (intro w' hSw; obtain ⟨m0, m1, m2, m3⟩ := hSw; go_simp; try with_reducible rfl)
    try simp only [Act.put, List.setIfInBounds_toArray, List.set_cons_zero, List.set_cons_succ]
    refine wpAnyM_take (i := 6) [] (oi := { dst := some 36, op := Op.load 9 (Operand.tmp 35), type := 9, pos := _, after := #[{ on := 5, ground := Ground.data }], guard := none }) (v := .string dkey) rfl (by kernel_rfl) (by kernel_rfl) (by kernel_rfl) (by kernel_rfl) (fun _ _ _ h => h) (Or.inl ⟨by rfl, ?_⟩) HT4.out ?_
    · (intro w' hSw; obtain ⟨m0, m1, m2, m3⟩ := hSw; go_simp; try with_reducible rfl)
    try simp only [Act.put, List.setIfInBounds_toArray, List.set_cons_zero, List.set_cons_succ]
    refine wpAnyM_take (i := 7) [] (oi := { dst := some 37, op := Op.fieldAddr 32 (Operand.tmp 7) 1, type := 0, pos := _, after := #[], guard := none }) (v := .pointer (some ⟨bx, 1, none⟩)) rfl (by kernel_rfl) (by kernel_rfl) (by kernel_rfl) (by kernel_rfl) (fun _ _ _ h => h) (Or.inl ⟨by rfl, ?_⟩) HT4.out ?_
    · (intro w' hSw; obtain ⟨m0, m1, m2, m3⟩ := hSw; go_simp; try with_reducible rfl)
    try simp only [Act.put, List.setIfInBounds_toArray, List.set_cons_zero, List.set_cons_succ]
    refine wpAnyM_take (i := 8) [] (oi := { dst := some 38, op := Op.fieldAddr 30 (Operand.tmp 37) 0, type := 0, pos := _, after := #[{ on := 7, ground := Ground.data }], guard := none }) (v := .pointer (some ⟨bx, 1, none⟩)) rfl (by kernel_rfl) (by kernel_rfl) (by kernel_rfl) (by kernel_rfl) (fun _ _ _ h => h) (Or.inl ⟨by rfl, ?_⟩) HT4.out ?_
    · (intro w' hSw; obtain ⟨m0, m1, m2, m3⟩ := hSw; go_simp; try with_reducible rfl)
    try simp only [Act.put, List.setIfInBounds_toArray, List.set_cons_zero, List.set_cons_succ]
    refine wpAnyM_take (i := 9) [] (oi := { dst := some 39, op := Op.load 9 (Operand.tmp 38), type := 9, pos := _, after := #[{ on := 8, ground := Ground.data }], guard := none }) (v := .string dek) rfl (by kernel_rfl) (by kernel_rfl) (by kernel_rfl) (by kernel_rfl) (fun _ _ _ h => h) (Or.inl ⟨by rfl, ?_⟩) HT4.out ?_
    · (intro w' hSw; obtain ⟨m0, m1, m2, m3⟩ := hSw; go_simp; try with_reducible rfl)
    try simp only [Act.put, List.setIfInBounds_toArray, List.set_cons_zero, List.set_cons_succ]
    refine wpAnyM_ready (rs := [10]) (by kernel_rfl) (by simp) ?_
    refine AllReadyM.cons (o := { dst := some 40, op := Op.buildSlice 114 2 #[(0, Operand.tmp 36), (1, Operand.tmp 39)], type := 114, pos := _, after := #[{ on := 6, ground := Ground.data }, { on := 9, ground := Ground.data }], guard := none }) rfl (fun K hK => ?_) AllReadyM.nil
    have HK9 : Hid (∀ a w, _ → K a w) := hK
    clear hK
    go_simp
    refine HK9.out _ _ ⟨fun _ => HT5.out, ?_⟩
    clear HK9 K
    try simp only [Act.put, List.setIfInBounds_toArray, List.set_cons_zero, List.set_cons_succ]
    refine wpAnyM_ready (rs := [11]) (by kernel_rfl) (by simp) ?_
    refine AllReadyM.cons (o := { dst := some 41, op := Op.call { callee := Callee.builtin Builtin.append, args := #[Operand.tmp 34, Operand.tmp 40], argTypes := #[114, 114] }, type := 114, pos := _, after := #[{ on := 4, ground := Ground.data }, { on := 10, ground := Ground.data }], guard := none }) rfl (fun K hK => ?_) AllReadyM.nil
    have HK9 : Hid (∀ a w, _ → K a w) := hK
    clear hK
    refine step_appR rfl _ _ _ rfl _ _ rfl rfl HR5.out ?_
    refine HK9.out _ _ ⟨fun _ => HT6.out, ?_⟩
    clear HK9 K
    try simp only [Act.put, List.setIfInBounds_toArray, List.set_cons_zero, List.set_cons_succ]
    refine wpAnyM_take (i := 12) [13] (oi := { dst := some 42, op := Op.nilCheck (Operand.tmp 30), type := 0, pos := _, after := #[{ on := 0, ground := Ground.data }, { on := 0, ground := Ground.phase }, { on := 1, ground := Ground.phase }, { on := 2, ground := Ground.phase }, { on := 3, ground := Ground.phase }, { on := 4, ground := Ground.phase }, { on := 5, ground := Ground.phase }, { on := 6, ground := Ground.phase }, { on := 7, ground := Ground.phase }, { on := 8, ground := Ground.phase }, { on := 9, ground := Ground.phase }, { on := 10, ground := Ground.phase }, { on := 11, ground := Ground.phase }], guard := none }) (v := .pointer (some ⟨B, 0, none⟩)) rfl (by kernel_rfl) (by kernel_rfl) (by kernel_rfl) (by kernel_rfl) (fun _ _ _ h => h) (Or.inl ⟨by rfl, ?_⟩) HT6.out ?_
    · (intro w' hSw; obtain ⟨m0, m1, m2, m3⟩ := hSw; go_simp; try with_reducible rfl)
    try simp only [Act.put, List.setIfInBounds_toArray, List.set_cons_zero, List.set_cons_succ]
    refine wpAnyM_take (i := 13) [] (oi := { dst := some 43, op := Op.fieldAddr 118 (Operand.tmp 42) 0, type := 0, pos := _, after := #[{ on := 12, ground := Ground.data }, { on := 0, ground := Ground.phase }, { on := 1, ground := Ground.phase }, { on := 2, ground := Ground.phase }, { on := 3, ground := Ground.phase }, { on := 4, ground := Ground.phase }, { on := 5, ground := Ground.phase }, { on := 6, ground := Ground.phase }, { on := 7, ground := Ground.phase }, { on := 8, ground := Ground.phase }, { on := 9, ground := Ground.phase }, { on := 10, ground := Ground.phase }, { on := 11, ground := Ground.phase }], guard := none }) (v := .pointer (some ⟨B, 0, none⟩)) rfl (by kernel_rfl) (by kernel_rfl) (by kernel_rfl) (by kernel_rfl) (fun _ _ _ h => h) (Or.inl ⟨by rfl, ?_⟩) HT6.out ?_
    · (intro w' hSw; obtain ⟨m0, m1, m2, m3⟩ := hSw; go_simp; try with_reducible rfl)
    try simp only [Act.put, List.setIfInBounds_toArray, List.set_cons_zero, List.set_cons_succ]
    refine wpAnyM_ready (rs := [14]) (by kernel_rfl) (by simp) ?_
    refine AllReadyM.cons (o := { dst := none, op := Op.store 114 (Operand.tmp 43) (Operand.tmp 41), type := 0, pos := _, after := #[{ on := 13, ground := Ground.data }, { on := 11, ground := Ground.data }, { on := 11, ground := Ground.chain }, { on := 0, ground := Ground.phase }, { on := 1, ground := Ground.phase }, { on := 2, ground := Ground.phase }, { on := 3, ground := Ground.phase }, { on := 4, ground := Ground.phase }, { on := 5, ground := Ground.phase }, { on := 6, ground := Ground.phase }, { on := 7, ground := Ground.phase }, { on := 8, ground := Ground.phase }, { on := 9, ground := Ground.phase }, { on := 10, ground := Ground.phase }, { on := 11, ground := Ground.phase }], guard := none }) rfl (fun K hK => ?_) AllReadyM.nil
    have HK9 : Hid (∀ a w, _ → K a w) := hK
    clear hK
    go_simp
    refine HK9.out _ _ ⟨fun h => absurd h (by decide), ?_⟩
    clear HK9 K
    try simp only [Act.put, List.setIfInBounds_toArray, List.set_cons_zero, List.set_cons_succ]
    refine wpAnyM_done (by kernel_rfl) ?_ _
    gi_wp2_with fail
    have hws3 := HWS.out
    refine ⟨(keeps_tn HE.out.2 (fun y hy => (HCK.out y hy).1)).from _, ⟨fun k hk => HE.out.2.block k (by omega) (fun hm => by have := (HCK.out k hm).2.1; omega), HE.out.2.block _ (by omega) (fun hm => (HCK.out _ hm).2.2 rfl)⟩, ?_⟩
    show ∃ vK vR, Nd w _ B PP w3.heap.size (textsOf (List.map _ _)) (pl ++ rowsOf (List.map _ _)) vK vR ∧ _
    rw [hds2]
    exact HE.out.1
end Go.Proofs.YthpilennljpamaaGreat

namespace Go.Proofs.YthpilennljpamaaGreat
open Go.RowKit Go.Lib Go.Shelf Dr
set_option linter.unusedVariables false
set_option maxRecDepth 100000

section
variable {w : World} {base B : Nat} {ks : List (List UInt8)} {F : Fx} {s : Df} {V : Dv}

theorem xT_gt (h : Inv F (num ks) (kw ks) s) {a : Nat} {x : Int} (hx : 0 ≤ x) (hgt : x < xT F s a) (ha : a < F.R) : th F s a = true ∧ x ≤ (F.k a : Int) := by
  unfold xT at hgt
  rw [if_neg (by omega)] at hgt
  cases ht : th F s a with
  | true => rw [ht] at hgt; simp at hgt; exact ⟨rfl, by omega⟩
  | false => rw [ht] at hgt; simp at hgt; omega

theorem xT_le {a : Nat} {x : Int} (hle : xT F s a ≤ x) (ht : th F s a = true) (ha : a < F.R) : (F.k a : Int) + 1 ≤ x := by
  unfold xT at hle
  rw [if_neg (by omega), ht] at hle
  simpa using hle

theorem th_lt (h : Inv F (num ks) (kw ks) s) {a : Nat} (ht : th F s a = true) : a < s.came ∧ a < F.R ∧ s.f (F.k a) ≤ a := by
  unfold th at ht
  simp only [Bool.and_eq_true, decide_eq_true_eq] at ht
  have := h.came
  exact ⟨ht.1, by omega, ht.2⟩

theorem gap_of (h : Inv F (num ks) (kw ks) s) {n r r2 g0 : Nat} (hn : n < F.K) (h1 : Pk.Fst (xT F s) 0 ((n : Int) + 1) r) (hr : r ≤ F.R) (h2 : Pk.Fst (xS F s) (n + 1) 0 r2) (hr2 : r2 ≤ F.K) (hg0 : g0 = min s.came r) :
    (r2 < F.K → Gap F s n (min g0 (s.g r2))) ∧ (¬ r2 < F.K → Gap F s n g0) := by
  have hrow : ∀ a, th F s a = true → n < F.k a → g0 ≤ a := by
    intro a ht hlt
    obtain ⟨_, haR, _⟩ := th_lt h ht
    by_cases hc : a < r
    · have := xT_le (h1.le a (Nat.zero_le _) hc) ht haR
      omega
    · omega
  have hone : g0 = s.came ∨ (th F s g0 = true ∧ n < F.k g0) := by
    by_cases hc : s.came ≤ r
    · left; omega
    · right
      have e : g0 = r := by omega
      rw [e]
      have := xT_gt h (by omega) h1.gt (by have := h.came; omega)
      exact ⟨this.1, by omega⟩
  have hst : ∀ m, s.st m = true → n < m → r2 ≤ m := by
    intro m hm hnm
    by_cases hc : m < r2
    · have hmK := (h.st m hm).1
      have := h2.le m (by omega) hc
      unfold xS at this
      rw [if_neg (by omega), hm] at this
      simp at this
    · omega
  constructor
  · intro hlt
    have hs2 : s.st r2 = true := by
      have := h2.gt
      unfold xS at this
      rw [if_neg (by omega)] at this
      cases hh : s.st r2 with
      | true => rfl
      | false => rw [hh] at this; simp at this
    have hge := h2.ge
    refine ⟨by omega, fun a ht hna => by have := hrow a ht hna; omega, fun m hm hnm => ?_, ?_⟩
    · have := hst m hm hnm
      by_cases he : m = r2
      · subst he; omega
      · have := h.rise r2 m hs2 hm (by omega)
        omega
    · by_cases hc : g0 ≤ s.g r2
      · rw [show min g0 (s.g r2) = g0 by omega]
        rcases hone with h3 | h3
        · exact .inl h3
        · exact .inr (.inl h3)
      · rw [show min g0 (s.g r2) = s.g r2 by omega]
        exact .inr (.inr ⟨r2, hs2, by omega, rfl⟩)
  · intro hge
    refine ⟨by omega, hrow, fun m hm hnm => ?_, ?_⟩
    · have := hst m hm hnm
      have := (h.st m hm).1
      omega
    · rcases hone with h3 | h3
      · exact .inl h3
      · exact .inr (.inl h3)

theorem first_ex {xs : Nat → Int} {a : Int} : ∀ (k f : Nat), a < xs (f + k) → ∃ r, Pk.Fst xs f a r ∧ r ≤ f + k := by
  intro k
  induction k with
  | zero => exact fun f h => ⟨f, ⟨Nat.le_refl _, h, fun i h1 h2 => by omega⟩, Nat.le_refl _⟩
  | succ k ih =>
    intro f h
    by_cases hf : a < xs f
    · exact ⟨f, ⟨Nat.le_refl _, hf, fun i h1 h2 => by omega⟩, by omega⟩
    · obtain ⟨r, hr, hle⟩ := ih (f + 1) (by rw [show f + 1 + k = f + (k + 1) by omega]; exact h)
      refine ⟨r, ⟨by have := hr.ge; omega, hr.gt, fun i h1 h2 => ?_⟩, by omega⟩
      by_cases hi : i = f
      · subst hi; omega
      · exact hr.le i (by omega) h2

theorem pfirst_eq {g c n : Nat} {t : List Int} {D : Nat} {xs : Nat → Int} (h : Ir w base (.slice (some ⟨g, 0, none⟩) n c) t) (hn : t.length = n) (hI : Pk.Is t D xs) (hb : n ≤ 35184372088832) (f P : Nat) (a : Int) (hP : P < 2 ^ D) {r : Nat} (hr : Pk.Fst xs f a r) (hrP : r ≤ P) :
    Calls Tryz.prog 103 #[.slice (some ⟨g, 0, none⟩) n c, .int .i64 (f : Int), .int .i64 a] w fun e w' => e = .returned (.int .i64 (r : Int)) ∧ w' = w := by
  refine (pfirst_any h hn hI hb f r a hr.ge (by omega) hr.gt).mono ?_
  rintro e w' ⟨⟨r', rfl, h1, _⟩, rfl⟩
  rw [h1.one hr]
  exact ⟨rfl, rfl⟩

theorem Drc.first1 {t1 t2 : List Int} {n1 n2 D1 D2 : Nat} (h : Drc w base B ks F s V t1 t2 n1 n2 D1 D2) (f : Nat) (x : Int) (hf : f ≤ F.R) (hx : x < 9223372036854775807) : ∃ r, Pk.Fst (xT F s) f x r ∧ r ≤ F.R := by
  obtain ⟨r, h1, h2⟩ := first_ex (xs := xT F s) (a := x) (F.R - f) f (by rw [show f + (F.R - f) = F.R by omega]; unfold xT; rw [if_pos rfl]; exact hx)
  exact ⟨r, h1, by omega⟩
theorem Drc.first2 {t1 t2 : List Int} {n1 n2 D1 D2 : Nat} (h : Drc w base B ks F s V t1 t2 n1 n2 D1 D2) (f : Nat) (x : Int) (hf : f ≤ F.K) (hx : x < 9223372036854775807) : ∃ r, Pk.Fst (xS F s) f x r ∧ r ≤ F.K := by
  obtain ⟨r, h1, h2⟩ := first_ex (xs := xS F s) (a := x) (F.K - f) f (by rw [show f + (F.K - f) = F.K by omega]; unfold xS; rw [if_pos rfl]; exact hx)
  exact ⟨r, h1, by omega⟩

set_option maxHeartbeats 4000000 in
theorem gapOf_any (h : Drn w base B ks F s V) (n : Nat) (hn : n < F.K) :
    Calls Tryz.prog 101 #[.pointer (some ⟨B, 0, none⟩), .int .i64 (n : Int)] w fun e w' => (∃ g : Nat, e = .returned (.int .i64 (g : Int)) ∧ Gap F s n g) ∧ Tn [] w w' := by
  obtain ⟨t1, t2, n1, n2, D1, D2, h⟩ := h
  have hbK := h.bK
  have hbR := h.bR
  have hcR := h.inv.came
  obtain ⟨c, hc⟩ : ∃ c : Nat, s.came = c := ⟨_, rfl⟩
  have x2 : w.cell? ⟨B, 2, none⟩ = some (.int .i64 (c : Int)) := by rw [← hc]; exact h.at 2
  have x6 : w.cell? ⟨B, 6, none⟩ = some (sl V.gt n1 V.ct) := h.at 6
  have x9 : w.cell? ⟨B, 9, none⟩ = some (sl V.gs n2 V.cs) := h.at 9
  have x8 : w.cell? ⟨B, 8, none⟩ = some (sl V.gg F.K V.cg) := h.at 8
  have x0 : w.cell? ⟨B, 0, none⟩ = some V.vK := h.at 0
  obtain ⟨pK, cK, hvK⟩ : ∃ p c, V.vK = .slice p F.K c := by
    rcases h.srow.2 with ⟨hv, hn⟩ | ⟨g, cap, cur, hv, _⟩
    · exact ⟨none, 0, by rw [hv, hn]⟩
    · exact ⟨_, cap, hv⟩
  rw [hvK] at x0
  obtain ⟨r, hF, hrR⟩ := h.first1 0 ((n : Int) + 1) (Nat.zero_le _) (by omega)
  obtain ⟨r2, hF2, hr2⟩ := h.first2 (n + 1) 0 (by omega) (by omega)
  obtain ⟨g0, hg0⟩ : ∃ g0 : Nat, g0 = min c r := ⟨_, rfl⟩
  have HG := gap_of h.inv hn hF hrR hF2 hr2 (show g0 = min s.came r by rw [hc]; exact hg0)
  have HH : Hid (Drc w base B ks F s V t1 t2 n1 n2 D1 D2) := h
  have HD : Hid (∀ k, Drc (w.drewN k) base B ks F s V t1 t2 n1 n2 D1 D2) := fun k => h.still (Tn.of_below (below_drewN (Below.refl _ _) _) _)
  have HF : Hid (Pk.Fst (xT F s) 0 ((n : Int) + 1) r ∧ r ≤ F.R) := ⟨hF, hrR⟩
  have HF2 : Hid (Pk.Fst (xS F s) (n + 1) 0 r2 ∧ r2 ≤ F.K) := ⟨hF2, hr2⟩
  have HG0 : Hid (g0 = min c r) := hg0
  have hcb : c ≤ 8796093022207 := by omega
  have hrb : r ≤ 8796093022207 := by omega
  clear h hvK hcR hc hF hrR hF2 hg0
  go_enter Tryz.func101, Tryz.ntmps101
  go_wp2_with fail
  go_quiet (first | (go_at_call 103; refine Calls.quiet_of_same (pfirst_eq (HD.out _).trow HH.out.l1 HH.out.i1 HH.out.b1 0 F.R ((n : Int) + 1) HH.out.r1 HF.out.1 HF.out.2)))
  go_wp2_with fail
  refine (pfirst_eq (HD.out _).irow HH.out.l2 HH.out.i2 HH.out.b2 (n + 1) F.K 0 HH.out.r2 HF2.out.1 HF2.out.2).mono ?_
  rintro e w1 ⟨rfl, rfl⟩
  by_cases hlt : r2 < F.K
  · have hli : (r2 : Int) < (F.K : Int) := by omega
    have hl0 : (0 : Int) ≤ (r2 : Int) := by omega
    have gc := HH.out.gcell hlt
    have HG1 : Hid (Gap F s n (min g0 (s.g r2))) := HG.1 hlt
    obtain ⟨y, hy⟩ : ∃ y : Nat, s.g r2 = y := ⟨_, rfl⟩
    obtain ⟨g, hg⟩ : ∃ g : Nat, g = min g0 y := ⟨_, rfl⟩
    rw [hy] at gc HG1
    rw [← hg] at HG1
    have HGG : Hid (g = min g0 y) := hg
    clear HG hy hg
    go_wp2
    go_ret
    exact ⟨⟨g, ret_int (by have := HGG.out; have := HG0.out; omega), HG1.out⟩, Tn.of_below (below_drewN (Below.refl _ _) _) _⟩
  · have hli : ¬ (r2 : Int) < (F.K : Int) := by omega
    have HG1 : Hid (Gap F s n g0) := HG.2 hlt
    clear HG
    go_wp2
    go_ret
    exact ⟨⟨g0, ret_int (by have := HG0.out; omega), HG1.out⟩, Tn.of_below (below_drewN (Below.refl _ _) _) _⟩
end
end Go.Proofs.YthpilennljpamaaGreat

namespace Go.Proofs.YthpilennljpamaaGreat
open Go.RowKit Go.Lib Go.Shelf Dr
set_option linter.unusedVariables false
set_option maxRecDepth 100000

section
variable {w w1 : World} {base B : Nat} {ks : List (List UInt8)} {F : Fx} {s : Df} {V : Dv} {t1 t2 : List Int} {n1 n2 D1 D2 : Nat}

theorem Drc.setS (h : Drc w base B ks F s V t1 t2 n1 n2 D1 D2) {t2' : List Int} (g1 : Ir w1 base (sl V.gs n2 V.cs) t2') (g2 : t2'.length = n2) (g4 : Tn [V.gs] w w1) : Cl w1 base B 118 (drVals F s V n1 n2) (drRows ks F s V t1 t2' n1 n2) ∧ Bw V B w w1 := by
  have ho : w1.ownsRow base 3 1 (sl V.gs n2 V.cs) n2 (ints t2') := by unfold Ir at g1; rw [g2] at g1; exact g1
  exact ⟨h.cl.turn (i := 8) rfl rfl g4 ho, Bw.of g4 (by simp [Dv.bs])⟩

theorem Drc.xSn (h : Drc w base B ks F s V t1 t2 n1 n2 D1 D2) {n : Nat} (hn : n < F.K) : xS F s n = if s.st n then 1 else 0 := by
  unfold xS; rw [if_neg (by omega)]

theorem xS_set (n : Nat) (hn : n < F.K) (b : Bool) (s' : Df) (hs : ∀ m, s'.st m = if m = n then b else s.st m) : xS F s' = Pk.upd (xS F s) n (if b then 1 else 0) := by
  funext m
  unfold xS Pk.upd
  rw [hs]
  by_cases hm : m = n
  · subst hm
    rw [if_neg (by omega), if_pos rfl, if_pos rfl]
  · rw [if_neg hm, if_neg hm]

/-- What a step leaves. -/
def Stp (w : World) (base B : Nat) (ks : List (List UInt8)) (F : Fx) (s : Df) (V : Dv) (l : List En) (e : Ending) (w' : World) : Prop :=
  e = .returned (.tuple #[]) ∧ ∃ s', Drn w' base B ks F s' V ∧ view F s' = l ∧ s'.came = s.came ∧ Bw V B w w' ∧ ∀ a, s.came ≤ a → s'.r a = s.r a

theorem Drn.inv (h : Drn w base B ks F s V) : Inv F (num ks) (kw ks) s := by
  obtain ⟨t1, t2, n1, n2, D1, D2, h⟩ := h
  exact h.inv
theorem Drn.size (h : Drn w base B ks F s V) : base ≤ w.heap.size := by
  obtain ⟨t1, t2, n1, n2, D1, D2, h⟩ := h
  exact h.below

set_option maxHeartbeats 4000000 in
theorem dremove_any (h : Drn w base B ks F s V) (key : ByteArray) (hk : kw ks key) :
    Calls Tryz.prog 75 #[.pointer (some ⟨B, 0, none⟩), .string key] w fun e w' => Stp w base B ks F s V (without (view F s) key) e w' := by
  have hnK := h.inv.nu.lt key hk
  have HH : Hid (Drn w base B ks F s V) := h
  clear h
  obtain ⟨n, hn⟩ : ∃ n : Nat, num ks key = n := ⟨_, rfl⟩
  have HN : Hid (num ks key = n) := hn
  rw [hn] at hnK
  clear hn
  go_enter Tryz.func75, Tryz.ntmps75
  go_wp2_with fail
  refine (number_any HH.out key).mono ?_
  rintro e w1 ⟨rfl, ht1⟩
  rw [HN.out]
  obtain ⟨t1, t2, n1, n2, D1, D2, h⟩ := HH.out.still ht1
  have HB1 : Hid (Bw V B w w1) := Bw.of ht1 (by simp)
  have hbK := h.bK
  have hbR := h.bR
  have hcR := h.inv.came
  have x9 : w1.cell? ⟨B, 9, none⟩ = some (sl V.gs n2 V.cs) := h.at 9
  have x5 : w1.cell? ⟨B, 5, none⟩ = some (sl V.gf F.K V.cf) := h.at 5
  have x2 : w1.cell? ⟨B, 2, none⟩ = some (.int .i64 (s.came : Int)) := h.at 2
  have fc := h.fcell hnK
  have HD : Hid (Drc w1 base B ks F s V t1 t2 n1 n2 D1 D2) := h
  clear h ht1
  go_wp2_with fail
  refine (pat_any HD.out.irow HD.out.l2 HD.out.i2 HD.out.b2 n (by have := HD.out.r2; omega)).mono ?_
  rintro e w2 ⟨rfl, rfl⟩
  rw [HD.out.xSn hnK]
  cases hs : s.st n with
  | true =>
    simp only [if_true]
    go_wp2_with fail
    refine (pset_any HD.out.irow HD.out.l2 HD.out.i2 HD.out.b2 n (by have := HD.out.r2; omega) 0).mono ?_
    rintro e w3 ⟨rfl, t2', g1, g2, g3, g4⟩
    obtain ⟨hcl, hB3⟩ := HD.out.setS g1 g2 g4
    have HE : Hid (∃ s', Drn w3 base B ks F s' V ∧ view F s' = without (view F s) key ∧ s'.came = s.came ∧ Bw V B w w3 ∧ ∀ a, s.came ≤ a → s'.r a = s.r a) := by
      refine ⟨rmA s n, ⟨t1, t2', n1, n2, D1, D2, { HD.out with cl := hcl, inv := rmA_inv HD.out.inv n, l2 := g2, i1 := HD.out.i1, i2 := ?_ }⟩, rmA_view HD.out.inv hs hk HN.out, rfl, HB1.out.trans hB3, fun _ _ => rfl⟩
      rw [xS_set n hnK false (rmA s n) (fun _ => rfl)]
      exact g3
    clear g1 g2 g3 g4 hcl hB3
    go_wp2
    go_end0
    exact ⟨rfl, HE.out⟩
  | false =>
    simp only [Bool.false_eq_true, if_false]
    have n0 : (0 : Int) ≤ (n : Int) := by omega
    have nk : (n : Int) < (F.K : Int) := by omega
    have hfle := HD.out.inv.fle n hnK
    by_cases hf : s.f n < s.came
    · have hfi : ((s.f n : Nat) : Int) < (s.came : Int) := by omega
      go_wp2_with fail
      have hkf := HD.out.inv.fkey n hnK (by omega)
      refine (dtake_any ⟨t1, t2, n1, n2, D1, D2, HD.out⟩ (s.f n) hf (by rw [hkf])).mono ?_
      rintro e w3 ⟨rfl, hd, hB3⟩
      have HE : Hid (∃ s', Drn w3 base B ks F s' V ∧ view F s' = without (view F s) key ∧ s'.came = s.came ∧ Bw V B w w3 ∧ ∀ a, s.came ≤ a → s'.r a = s.r a) :=
        ⟨_, hd, take_view HD.out.inv hnK hs hf hk HN.out, rfl, HB1.out.trans hB3, fun _ _ => rfl⟩
      clear hd hB3
      go_wp2
      go_end0
      exact ⟨rfl, HE.out⟩
    · have hfi : ¬ ((s.f n : Nat) : Int) < (s.came : Int) := by omega
      have HE : Hid (∃ s', Drn w2 base B ks F s' V ∧ view F s' = without (view F s) key ∧ s'.came = s.came ∧ Bw V B w w2 ∧ ∀ a, s.came ≤ a → s'.r a = s.r a) :=
        ⟨s, ⟨t1, t2, n1, n2, D1, D2, HD.out⟩, (none_view HD.out.inv hs (by omega) hk HN.out).symm, rfl, HB1.out, fun _ _ => rfl⟩
      go_wp2
      go_end0
      exact ⟨rfl, HE.out⟩

/-- An entry of a row of a draft is written over. -/
theorem over_row {g n c : Nat} {l : List En} (h : w.ownsRow base 30 4 (sl g n c) n (flatE l)) {i : Nat} (hi : i < n) (e : En) :
    (put4i w g (i * 4) (.string e.key) (.int .i64 e.s) (.int .i64 e.g) (.int .i64 e.c)).ownsRow base 30 4 (sl g n c) n (flatE (l.set i e)) ∧ Tn [g] w (put4i w g (i * 4) (.string e.key) (.int .i64 e.s) (.int .i64 e.g) (.int .i64 e.c)) := by
  have hl := h.1
  rw [flatE_len] at hl
  have hl2 : l.length = n := by omega
  have h2 : OwnE w base (sl g n c) l := by unfold OwnE; rw [hl2]; exact h
  have h3 := h2.over hl2 hi e
  unfold OwnE at h3
  rw [List.length_set, hl2] at h3
  exact ⟨h3, (Tn.refl _ _).four4 (.inl (by simp)) _ _ _ _ _⟩

set_option maxHeartbeats 4000000 in
theorem dput_any (h : Drn w base B ks F s V) (x : En) (hk : kw ks x.key) :
    Calls Tryz.prog 74 #[.pointer (some ⟨B, 0, none⟩), x.val] w fun e w' => Stp w base B ks F s V (Pg.putL (view F s) x) e w' := by
  have hnK := h.inv.nu.lt x.key hk
  obtain ⟨w0, hw0⟩ : ∃ w0, w.alloc (.cells #[.string x.key, .int .i64 x.s, .int .i64 x.g, .int .i64 x.c] 30) = w0 := ⟨_, rfl⟩
  have ht0 : Tn [] w w0 := by rw [← hw0]; exact (Tn.refl [] w).alloc _
  have HK0 : Hid (Bk w0 w.heap.size 30 #[.string x.key, .int .i64 x.s, .int .i64 x.g, .int .i64 x.c]) := by rw [← hw0]; exact Bk.new _ _ _
  have HH : Hid (Drn w0 base B ks F s V) := h.still ht0
  have HB0 : Hid (Bw V B w w0) := Bw.of ht0 (by simp)
  obtain ⟨n, hn⟩ : ∃ n : Nat, num ks x.key = n := ⟨_, rfl⟩
  have HN : Hid (num ks x.key = n) := hn
  rw [hn] at hnK
  have e0 : w0.cell? ⟨w.heap.size, 0, none⟩ = some (.string x.key) := HK0.out.cell 0
  clear hn h ht0
  go_enter Tryz.func74, Tryz.ntmps74
  go_wp2_with fail
  refine (number_any HH.out x.key).mono ?_
  rintro e w1 ⟨rfl, ht1⟩
  rw [HN.out]
  have HK1 : Hid (Bk w1 w.heap.size 30 #[.string x.key, .int .i64 x.s, .int .i64 x.g, .int .i64 x.c]) := HK0.out.tn ht1 (by simp)
  obtain ⟨t1, t2, n1, n2, D1, D2, h⟩ := HH.out.still ht1
  have HB1 : Hid (Bw V B w w1) := HB0.out.trans (Bw.of ht1 (by simp))
  have hbK := h.bK
  have hbR := h.bR
  have hcR := h.inv.came
  have x9 : w1.cell? ⟨B, 9, none⟩ = some (sl V.gs n2 V.cs) := h.at 9
  have x7 : w1.cell? ⟨B, 7, none⟩ = some (sl V.ga F.K V.ca) := h.at 7
  have x5 : w1.cell? ⟨B, 5, none⟩ = some (sl V.gf F.K V.cf) := h.at 5
  have x2 : w1.cell? ⟨B, 2, none⟩ = some (.int .i64 (s.came : Int)) := h.at 2
  have x1 : w1.cell? ⟨B, 1, none⟩ = some V.vR := h.at 1
  have fc := h.fcell hnK
  have y0 : w1.cell? ⟨w.heap.size, 0, none⟩ = some (.string x.key) := HK1.out.cell 0
  have y1 : w1.cell? ⟨w.heap.size, 1, none⟩ = some (.int .i64 x.s) := HK1.out.cell 1
  have y2 : w1.cell? ⟨w.heap.size, 2, none⟩ = some (.int .i64 x.g) := HK1.out.cell 2
  have y3 : w1.cell? ⟨w.heap.size, 3, none⟩ = some (.int .i64 x.c) := HK1.out.cell 3
  have HD : Hid (Drc w1 base B ks F s V t1 t2 n1 n2 D1 D2) := h
  have n0 : (0 : Int) ≤ (n : Int) := by omega
  have nk : (n : Int) < (F.K : Int) := by omega
  obtain ⟨z0, z1, z2, z3⟩ := row_en h.arow n hnK
  have u0 : w1.frozen? ⟨V.ga, n * 4, none⟩ = false := h.arow.frozenAt _
  have u1 : w1.frozen? ⟨V.ga, n * 4 + 1, none⟩ = false := h.arow.frozenAt _
  have u2 : w1.frozen? ⟨V.ga, n * 4 + 2, none⟩ = false := h.arow.frozenAt _
  have u3 : w1.frozen? ⟨V.ga, n * 4 + 3, none⟩ = false := h.arow.frozenAt _
  obtain ⟨hv1, hv2⟩ := over_row h.arow hnK x
  obtain ⟨w2, hw2⟩ : ∃ w2, put4i w1 V.ga (n * 4) (.string x.key) (.int .i64 x.s) (.int .i64 x.g) (.int .i64 x.c) = w2 := ⟨_, rfl⟩
  rw [hw2] at hv1 hv2
  have HC2 : Hid (Cl w2.drew base B 118 (drVals F s V n1 n2) ((drRows ks F s V t1 t2 n1 n2).set 6 ⟨30, 4, sl V.ga F.K V.ca, F.K, flatE (s.al.set n x)⟩) ∧ Bw V B w w2.drew) := by
    refine ⟨(h.cl.turn (i := 6) rfl rfl hv2 hv1).still (Tn.drew (Tn.refl [] _)), HB1.out.trans (Bw.of hv2.drew (by simp [Dv.bs]))⟩
  unfold put4i at hw2
  generalize (s.al.getD n En.zero) = old at *
  clear h ht1 hw0 e0 hv1 hv2
  go_wp2_with fail
  refine (pat_any HD.out.irow HD.out.l2 HD.out.i2 HD.out.b2 n (by have := HD.out.r2; omega)).mono ?_
  rintro e w3 ⟨rfl, rfl⟩
  rw [HD.out.xSn hnK]
  cases hs : s.st n with
  | true =>
    simp only [if_true]
    have HE : Hid (∃ s', Drn w2.drew base B ks F s' V ∧ view F s' = Pg.putL (view F s) x ∧ s'.came = s.came ∧ Bw V B w w2.drew ∧ ∀ a, s.came ≤ a → s'.r a = s.r a) :=
      ⟨putA s n x, ⟨t1, t2, n1, n2, D1, D2, { HD.out with cl := HC2.out.1, inv := putA_inv HD.out.inv hs hk HN.out, i1 := HD.out.i1, i2 := HD.out.i2 }⟩, putA_view HD.out.inv hs hk HN.out, rfl, HC2.out.2, fun _ _ => rfl⟩
    go_wp2_with fail
    go_region
    go_wp2
    go_end0
    exact ⟨rfl, HE.out⟩
  | false =>
    simp only [Bool.false_eq_true, if_false]
    have hfle := HD.out.inv.fle n hnK
    obtain ⟨f, hf0⟩ : ∃ f : Nat, s.f n = f := ⟨_, rfl⟩
    have HF0 : Hid (s.f n = f) := hf0
    rw [hf0] at fc hfle
    clear hf0
    go_wp2_with fail
    go_quiet (fail)
    obtain ⟨w5, hw5⟩ : ∃ w5, w5 = w3.drewN nq := ⟨_, rfl⟩
    rw [← hw5]
    have ht5 : Tn [] w3 w5 := by rw [hw5]; exact Tn.of_below (below_drewN (Below.refl _ _) _) _
    clear hw5 hw2 HC2 z0 z1 z2 z3 u0 u1 u2 u3 x9 x7 x5 x2 x1 fc y0 y1 y2 y3
    have h := HD.out.still ht5
    have HB5 : Hid (Bw V B w w5) := HB1.out.trans (Bw.of ht5 (by simp))
    have HK5 : Hid (Bk w5 w.heap.size 30 #[.string x.key, .int .i64 x.s, .int .i64 x.g, .int .i64 x.c]) := HK1.out.tn ht5 (by simp)
    clear HD HK1 HB1 ht5
    have x1 : w5.cell? ⟨B, 1, none⟩ = some V.vR := h.at 1
    have x5 : w5.cell? ⟨B, 5, none⟩ = some (sl V.gf F.K V.cf) := h.at 5
    have x7 : w5.cell? ⟨B, 7, none⟩ = some (sl V.ga F.K V.ca) := h.at 7
    have fc : w5.cell? ⟨V.gf, n, none⟩ = some (.int .i64 (f : Int)) := by rw [← HF0.out]; exact h.fcell hnK
    have y0 : w5.cell? ⟨w.heap.size, 0, none⟩ = some (.string x.key) := HK5.out.cell 0
    have y1 : w5.cell? ⟨w.heap.size, 1, none⟩ = some (.int .i64 x.s) := HK5.out.cell 1
    have y2 : w5.cell? ⟨w.heap.size, 2, none⟩ = some (.int .i64 x.g) := HK5.out.cell 2
    have y3 : w5.cell? ⟨w.heap.size, 3, none⟩ = some (.int .i64 x.c) := HK5.out.cell 3
    have HD : Hid (Drc w5 base B ks F s V t1 t2 n1 n2 D1 D2) := h
    clear h
    by_cases hf : f < s.came
    · have hfi : (f : Int) < (s.came : Int) := by omega
      have hfR : (f : Int) < (F.R : Int) := by omega
      have f0 : (0 : Int) ≤ (f : Int) := by omega
      obtain ⟨gR, cR, hvR⟩ : ∃ g c, V.vR = sl g F.R c := by
        rcases HD.out.rrow.2 with ⟨_, hn⟩ | ⟨g, cap, cur, hv, _⟩
        · omega
        · exact ⟨_, cap, hv⟩
      have hrr := HD.out.rrow
      rw [hvR] at hrr x1
      obtain ⟨z0, z1, z2, z3⟩ := row_en hrr f (by omega)
      have u0 : w5.frozen? ⟨gR, f * 4, none⟩ = false := hrr.frozenAt _
      have u1 : w5.frozen? ⟨gR, f * 4 + 1, none⟩ = false := hrr.frozenAt _
      have u2 : w5.frozen? ⟨gR, f * 4 + 2, none⟩ = false := hrr.frozenAt _
      have u3 : w5.frozen? ⟨gR, f * 4 + 3, none⟩ = false := hrr.frozenAt _
      obtain ⟨hv1, hv2⟩ := over_row hrr (show f < F.R by omega) x
      obtain ⟨w4, hw4⟩ : ∃ w4, put4i w5 gR (f * 4) (.string x.key) (.int .i64 x.s) (.int .i64 x.g) (.int .i64 x.c) = w4 := ⟨_, rfl⟩
      rw [hw4] at hv1 hv2
      have HE : Hid (∃ s', Drn w4.drew base B ks F s' V ∧ view F s' = Pg.putL (view F s) x ∧ s'.came = s.came ∧ Bw V B w w4.drew ∧ ∀ a, s.came ≤ a → s'.r a = s.r a) := by
        have hfn : s.f n < s.came := by rw [HF0.out]; exact hf
        have hcl : Cl w4 base B 118 (drVals F s V n1 n2) (drRows ks F (putR s (s.f n) x) V t1 t2 n1 n2) := by
          have ho : w4.ownsRow base 30 4 V.vR F.R (flatE (s.row.set (s.f n) x)) := by rw [hvR, HF0.out]; exact hv1
          have := HD.out.cl.turn (i := 1) (r := ⟨30, 4, V.vR, F.R, flatE s.row⟩) rfl (by show V.vR.ownBlock = _; rw [hvR]; rfl) hv2 ho
          exact this
        refine ⟨putR s (s.f n) x, ⟨t1, t2, n1, n2, D1, D2, { HD.out with cl := hcl.still (Tn.drew (Tn.refl [] _)), inv := putR_inv HD.out.inv hnK hfn hk HN.out, i1 := HD.out.i1, i2 := HD.out.i2 }⟩, putR_view HD.out.inv hnK hs hfn hk HN.out, rfl, HB5.out.trans (Bw.of hv2.drew (by simp [Dv.bs, hvR, Value.ownBlock])), fun a ha => by
          have hlr := HD.out.inv.lr
          show (s.row.set (s.f n) x).getD a En.zero = s.row.getD a En.zero
          rw [getD_set _ _ _ _ _ (by omega), if_neg (by omega)]⟩
      unfold put4i at hw4
      generalize (s.row.getD f En.zero) = old2 at *
      clear hrr hv1 hv2 hvR
      go_wp2_with fail
      go_region
      go_wp2
      go_end0
      exact ⟨rfl, HE.out⟩
    · have hfi : ¬ (f : Int) < (s.came : Int) := by omega
      obtain ⟨z0, z1, z2, z3⟩ := row_en HD.out.arow n hnK
      have u0 : w5.frozen? ⟨V.ga, n * 4, none⟩ = false := HD.out.arow.frozenAt _
      have u1 : w5.frozen? ⟨V.ga, n * 4 + 1, none⟩ = false := HD.out.arow.frozenAt _
      have u2 : w5.frozen? ⟨V.ga, n * 4 + 2, none⟩ = false := HD.out.arow.frozenAt _
      have u3 : w5.frozen? ⟨V.ga, n * 4 + 3, none⟩ = false := HD.out.arow.frozenAt _
      obtain ⟨hv1, hv2⟩ := over_row HD.out.arow hnK x
      obtain ⟨w4, hw4⟩ : ∃ w4, put4i w5 V.ga (n * 4) (.string x.key) (.int .i64 x.s) (.int .i64 x.g) (.int .i64 x.c) = w4 := ⟨_, rfl⟩
      rw [hw4] at hv1 hv2
      have HC4 : Hid (Drc w4.drew base B ks F { s with al := s.al.set n x } V t1 t2 n1 n2 D1 D2 ∧ Bw V B w w4.drew) := by
        refine ⟨{ HD.out with cl := (HD.out.cl.turn (i := 6) rfl rfl hv2 hv1).still (Tn.drew (Tn.refl [] _)), inv := ?_, i1 := HD.out.i1, i2 := HD.out.i2 }, HB5.out.trans (Bw.of hv2.drew (by simp [Dv.bs]))⟩
        have hla := HD.out.inv.la
        refine { HD.out.inv with la := by simpa using hla, ka := fun m hm => ?_ }
        have hmn : m ≠ n := fun e => by rw [e] at hm; have : s.st n = true := hm; rw [hs] at this; cases this
        show kw ks ((s.al.set n x).getD m En.zero).key ∧ num ks ((s.al.set n x).getD m En.zero).key = m
        rw [getD_set _ _ _ _ _ (by omega), if_neg hmn]
        exact HD.out.inv.ka m hm
      unfold put4i at hw4
      generalize (s.al.getD n En.zero) = old2 at *
      clear hv1 hv2
      go_wp2_with fail
      go_region
      clear hw4
      obtain ⟨w6, hw6⟩ : ∃ w6, w6 = w4.drew := ⟨_, rfl⟩
      rw [← hw6]
      rw [← hw6] at HC4
      clear hw6 z0 z1 z2 z3 u0 u1 u2 u3 x1 x5 x7 fc y0 y1 y2 y3
      have x8 : w6.cell? ⟨B, 8, none⟩ = some (sl V.gg F.K V.cg) := HC4.out.1.at 8
      have HC6 : Hid (Drn w6.drew base B ks F { s with al := s.al.set n x } V) := ⟨t1, t2, n1, n2, D1, D2, HC4.out.1.still (Tn.drew (Tn.refl [] _))⟩
      have hBg : B ≠ V.gg := fun e => HC4.out.1.cl.ne 7 _ rfl (by rw [e]; rfl)
      have hgB : V.gg ≠ B := Ne.symm hBg
      go_wp2_with fail
      go_region_held3 (fun w' => w'.cell? ⟨B, 8, none⟩ = some (sl V.gg F.K V.cg)) (go_keep) (first | (go_at_call 101; refine (gapOf_any HC6.out n hnK).mono ?_; rintro e w7 ⟨⟨g, rfl, hgap⟩, ht7⟩; have h7 := (HC4.out.1.still (Tn.drew (Tn.refl [] _))).still ht7; have z8 : w7.cell? ⟨B, 8, none⟩ = some (sl V.gg F.K V.cg) := h7.at 8; have zg := h7.gcell hnK; have ug : w7.frozen? ⟨V.gg, n, none⟩ = false := h7.grow.frozenAt _))
      have hfc : s.came ≤ s.f n := by rw [HF0.out]; omega
      have hgap2 : Gap F s n g := ⟨hgap.came, hgap.row, hgap.gap, hgap.one⟩
      have hst := World.ownsRow.stored h7.grow n (.int .i64 (g : Int))
      have ht8 := tn_grown hst.2
      obtain ⟨w8, hw8⟩ : ∃ w8, w8 = w7.setCell ⟨V.gg, n, none⟩ (.int .i64 (g : Int)) := ⟨_, rfl⟩
      rw [← hw8] at ht8 hst ⊢
      have hcl8 := h7.cl.turn (i := 7) rfl rfl ht8 hst.1
      have hB8 : Bw V B w w8 := HC4.out.2.trans ((Bw.of (Tn.drew (Tn.refl [] w6)) (by simp)).trans ((Bw.of ht7 (by simp)).trans (Bw.of ht8 (by simp [Dv.bs, Value.ownBlock]))))
      have hi8 : Ir w8 base (sl V.gs n2 V.cs) t2 := by
        have : w8.ownsRow base 3 1 (sl V.gs n2 V.cs) n2 (ints t2) := hcl8.row 8 _ rfl
        unfold Ir
        rw [h7.l2]
        exact this
      have x9 : w8.cell? ⟨B, 9, none⟩ = some (sl V.gs n2 V.cs) := hcl8.blk.cell 9
      have HC8 : Hid (Cl w8 base B 118 (drVals F (putN s n x g) V n1 n2) (drRows ks F (putN s n x g) V t1 t2 n1 n2)) := by
        have e : drRows ks F (putN s n x g) V t1 t2 n1 n2 = (drRows ks F { s with al := s.al.set n x } V t1 t2 n1 n2).set 7 ⟨3, 1, sl V.gg F.K V.cg, F.K, (ints (ofs s.gp)).set n (.int .i64 (g : Int))⟩ := by
          have : ints (ofs (putN s n x g).gp) = (ints (ofs s.gp)).set n (.int .i64 (g : Int)) := by
            show ints (ofs (s.gp.set n g)) = _
            rw [ofs_set]; simp [ints, List.map_set]
          unfold drRows
          rw [this]; rfl
        rw [Hid, e]
        exact hcl8
      have HI8 : Hid (Ir w8 base (sl V.gs n2 V.cs) t2 ∧ Bw V B w w8 ∧ Gap F s n g) := ⟨hi8, hB8, hgap2⟩
      have HL8 : Hid (base ≤ w8.heap.size) := by have := hcl8.blk.lt; have := hcl8.ge; rw [Hid]; omega
      clear hgap hgap2 hst ht8 hcl8 hB8 hi8 h7 ht7 z8 zg ug hw8
      go_wp2_with fail
      refine (pset_any HI8.out.1 HD.out.l2 HD.out.i2 HD.out.b2 n (by have := HD.out.r2; omega) 1).mono ?_
      rintro e w9 ⟨rfl, t2', g1, g2, g3, g4⟩
      have HE : Hid (∃ s', Drn w9 base B ks F s' V ∧ view F s' = Pg.putL (view F s) x ∧ s'.came = s.came ∧ Bw V B w w9 ∧ ∀ a, s.came ≤ a → s'.r a = s.r a) := by
        have ho : w9.ownsRow base 3 1 (sl V.gs n2 V.cs) n2 (ints t2') := by unfold Ir at g1; rw [g2] at g1; exact g1
        have hcl9 := HC8.out.turn (i := 8) rfl rfl g4 ho
        refine ⟨putN s n x g, ⟨t1, t2', n1, n2, D1, D2, { HD.out with cl := hcl9, inv := putN_inv HD.out.inv hnK hs hfc HI8.out.2.2 hk HN.out, l2 := g2, i1 := HD.out.i1, i2 := ?_ }⟩, putN_view HD.out.inv hnK hs hfc HI8.out.2.2 hk HN.out, rfl, HI8.out.2.1.trans (Bw.of g4 (by simp [Dv.bs])), fun _ _ => rfl⟩
        rw [xS_set n hnK true (putN s n x g) (fun _ => rfl)]
        exact g3
      clear g1 g2 g3 g4
      go_wp2
      go_end0
      exact ⟨rfl, HE.out⟩
end
end Go.Proofs.YthpilennljpamaaGreat

namespace Go.Proofs.YthpilennljpamaaGreat
open Go.RowKit Go.Lib Go.Shelf Dr
set_option linter.unusedVariables false
set_option maxRecDepth 100000

section
variable {w w1 : World} {base B : Nat} {ks : List (List UInt8)} {F : Fx} {s s' : Df} {V : Dv} {t1 t2 : List Int} {n1 n2 D1 D2 : Nat}

/-- Between the rounds that take places out. -/
structure Ct1 (F : Fx) (s s' : Df) (n at' : Nat) : Prop where
  came : s'.came = s.came
  row : s'.row = s.row
  al : s'.al = s.al
  gp : s'.gp = s.gp
  st : s'.st = s.st
  sub : ∀ a, th F s' a = true → th F s a = true
  keep : ∀ a, th F s a = true → F.k a < n → th F s' a = true
  low : ∀ a, a < at' → th F s' a = true → F.k a < n
  is : at' < s.came → th F s' at' = true ∧ n ≤ F.k at'
  le : at' ≤ F.R

theorem Ct1.start (h : Inv F (num ks) (kw ks) s) {n r : Nat} (hF : Pk.Fst (xT F s) 0 (n : Int) r) (hr : r ≤ F.R) : Ct1 F s s n r := by
  refine ⟨rfl, rfl, rfl, rfl, rfl, fun _ h => h, fun _ h _ => h, fun a ha ht => ?_, fun hlt => ?_, hr⟩
  · have := xT_le (hF.le a (Nat.zero_le _) ha) ht (th_lt h ht).2.1
    omega
  · have := xT_gt h (by omega) hF.gt (by have := h.came; omega)
    exact ⟨this.1, by omega⟩

theorem Ct1.first (h' : Inv F (num ks) (kw ks) s') {n a : Nat} (hc : Ct1 F s s' n a) (hlt : a < s.came) : s'.f (F.k a) = a := by
  obtain ⟨ht, hn⟩ := hc.is hlt
  obtain ⟨h1, h2, h3⟩ := th_lt h' ht
  by_cases he : s'.f (F.k a) = a
  · exact he
  · have hb : s'.f (F.k a) < a := by omega
    have hkb := h'.fkey (F.k a) (h'.fx.key a h2) (by omega)
    have htb : th F s' (s'.f (F.k a)) = true := by
      unfold th
      rw [hkb]
      simp only [Nat.le_refl, decide_true, Bool.and_true, decide_eq_true_eq]
      omega
    have := hc.low _ hb htb
    omega

theorem Ct1.next (h' : Inv F (num ks) (kw ks) s') {n a r : Nat} (hc : Ct1 F s s' n a) (hlt : a < s.came) (hF : Pk.Fst (xT F (take F s' a)) a (n : Int) r) (hr : r ≤ F.R) : Ct1 F s (take F s' a) n r ∧ a < r := by
  have hlt' : a < s'.came := by rw [hc.came]; exact hlt
  have hf := hc.first h' hlt
  have hth := take_th h' hlt' hf
  have hi := take_inv h' hlt' hf
  have hna := (hc.is hlt).2
  have har : a < r := by
    have h1 := hF.ge
    by_cases he : r = a
    · subst he
      have := xT_gt hi (by omega) hF.gt (by have := h'.came; omega)
      rw [hth] at this
      simp at this
    · omega
  refine ⟨⟨hc.came, hc.row, hc.al, hc.gp, hc.st, fun b hb => ?_, fun b hb hk => ?_, fun b hb ht => ?_, fun hlt2 => ?_, hr⟩, har⟩
  · rw [hth] at hb
    simp only [Bool.and_eq_true] at hb
    exact hc.sub b hb.1
  · rw [hth, hc.keep b hb hk]
    have : b ≠ a := fun e => by subst e; omega
    simp [this]
  · by_cases hba : b < a
    · rw [hth] at ht
      simp only [Bool.and_eq_true] at ht
      exact hc.low b hba ht.1
    · have := xT_le (hF.le b (by omega) hb) ht (th_lt hi ht).2.1
      omega
  · have := xT_gt hi (by omega) hF.gt (by have := h'.came; have := hc.came; omega)
    exact ⟨this.1, by omega⟩

/-- Between the rounds that take out of gaps. -/
structure Ct2 (F : Fx) (s s' : Df) (n at' : Nat) : Prop where
  came : s'.came = s.came
  row : s'.row = s.row
  al : s'.al = s.al
  gp : s'.gp = s.gp
  th : ∀ a, th F s' a = (th F s a && decide (F.k a < n))
  sub : ∀ m, s'.st m = true → s.st m = true
  keep : ∀ m, s.st m = true → m < n → s'.st m = true
  low : ∀ m, n ≤ m → m < at' → s'.st m = false
  is : at' < F.K → s'.st at' = true
  ge : n ≤ at'
  le : at' ≤ F.K

theorem xS_gt {m : Nat} (hgt : 0 < xS F s m) (hm : m < F.K) : s.st m = true := by
  unfold xS at hgt
  rw [if_neg (by omega)] at hgt
  cases h : s.st m with
  | true => rfl
  | false => rw [h] at hgt; simp at hgt
theorem xS_le {m : Nat} (hle : xS F s m ≤ 0) (hm : m < F.K) : s.st m = false := by
  unfold xS at hle
  rw [if_neg (by omega)] at hle
  cases h : s.st m with
  | false => rfl
  | true => rw [h] at hle; simp at hle

theorem Ct1.done {n a r : Nat} (hc : Ct1 F s s' n a) (ha : s.came ≤ a) (h : Inv F (num ks) (kw ks) s) (hF : Pk.Fst (xS F s') n 0 r) (hr : r ≤ F.K) : Ct2 F s s' n r := by
  refine ⟨hc.came, hc.row, hc.al, hc.gp, fun b => ?_, fun m hm => by rw [hc.st] at hm; exact hm, fun m hm _ => by rw [hc.st]; exact hm, fun m h1 h2 => xS_le (hF.le m h1 h2) (by omega), fun hlt => xS_gt hF.gt hlt, hF.ge, hr⟩
  rw [Bool.eq_iff_iff, Bool.and_eq_true, decide_eq_true_eq]
  constructor
  · intro hb
    have hs := hc.sub b hb
    have := (th_lt h hs).1
    exact ⟨hs, hc.low b (by omega) hb⟩
  · intro ⟨h1, h2⟩
    exact hc.keep b h1 h2

theorem Ct2.next {n a r : Nat} (hc : Ct2 F s s' n a) (hlt : a < F.K) (hF : Pk.Fst (xS F (rmA s' a)) a 0 r) (hr : r ≤ F.K) : Ct2 F s (rmA s' a) n r ∧ a < r := by
  have hst : ∀ m, (rmA s' a).st m = if m = a then false else s'.st m := fun _ => rfl
  have hge := hc.ge
  have har : a < r := by
    have h1 := hF.ge
    by_cases he : r = a
    · subst he
      have := xS_gt hF.gt hlt
      rw [hst] at this
      simp at this
    · omega
  refine ⟨⟨hc.came, hc.row, hc.al, hc.gp, hc.th, fun m hm => ?_, fun m hm hn => ?_, fun m h1 h2 => ?_, fun h1 => xS_gt hF.gt h1, by omega, hr⟩, har⟩
  · rw [hst] at hm
    split at hm
    · cases hm
    · exact hc.sub m hm
  · rw [hst, if_neg (by omega)]
    exact hc.keep m hm hn
  · by_cases hma : m < a
    · rw [hst, if_neg (by omega)]
      exact hc.low m h1 hma
    · exact xS_le (hF.le m (by omega) h2) (by omega)

theorem Ct2.done {n a : Nat} (hc : Ct2 F s s' n a) (ha : ¬ a < F.K) (h : Inv F (num ks) (kw ks) s) (h' : Inv F (num ks) (kw ks) s') : Cutd F s s' n := by
  refine ⟨hc.came, hc.row, hc.al, hc.gp, fun m => ?_, hc.th⟩
  rw [Bool.eq_iff_iff, Bool.and_eq_true, decide_eq_true_eq]
  constructor
  · intro hm
    have hmK := (h'.st m hm).1
    refine ⟨hc.sub m hm, ?_⟩
    by_cases hn : m < n
    · exact hn
    · have := hc.low m (by omega) (by have := hc.le; omega)
      rw [this] at hm
      cases hm
  · intro ⟨h1, h2⟩
    exact hc.keep m h1 h2

set_option maxHeartbeats 4000000 in
theorem dcut_any (h : Drn w base B ks F s V) (key : ByteArray) (hk : kw ks key) :
    Calls Tryz.prog 76 #[.pointer (some ⟨B, 0, none⟩), .string key] w fun e w' => Stp w base B ks F s V ((view F s).filter fun e => Ky.lt e.key key) e w' := by
  have hnK := h.inv.nu.lt key hk
  have HI : Hid (Inv F (num ks) (kw ks) s) := h.inv
  have HH : Hid (Drn w base B ks F s V) := h
  clear h
  obtain ⟨n, hn⟩ : ∃ n : Nat, num ks key = n := ⟨_, rfl⟩
  have HN : Hid (num ks key = n) := hn
  rw [hn] at hnK
  clear hn
  go_enter Tryz.func76, Tryz.ntmps76
  go_wp2_with fail
  refine (number_any HH.out key).mono ?_
  rintro e w1 ⟨rfl, ht1⟩
  rw [HN.out]
  obtain ⟨t1, t2, n1, n2, D1, D2, h⟩ := HH.out.still ht1
  have hbK := h.bK
  have hbR := h.bR
  have hcR := h.inv.came
  have x6 : w1.cell? ⟨B, 6, none⟩ = some (sl V.gt n1 V.ct) := h.at 6
  obtain ⟨r, hF, hrR⟩ := h.first1 0 (n : Int) (Nat.zero_le _) (by omega)
  have HD : Hid (Drc w1 base B ks F s V t1 t2 n1 n2 D1 D2 ∧ Pk.Fst (xT F s) 0 (n : Int) r ∧ r ≤ F.R) := ⟨h, hF, hrR⟩
  have HS : Hid (∃ s', Drn w1 base B ks F s' V ∧ Ct1 F s s' n r ∧ Bw V B w w1) := ⟨s, ⟨_, _, _, _, _, _, h⟩, Ct1.start h.inv hF hrR, Bw.of ht1 (by simp)⟩
  clear h ht1 hF hrR
  go_wp2_with fail
  refine (pfirst_eq HD.out.1.trow HD.out.1.l1 HD.out.1.i1 HD.out.1.b1 0 F.R (n : Int) HD.out.1.r1 HD.out.2.1 HD.out.2.2).mono ?_
  rintro e w2 ⟨rfl, rfl⟩
  clear HD x6
  go_wp2_with fail
  go_loopw [5] (fun i wr => ∃ a : Nat, i = .int .i64 (a : Int) ∧ Hid (∃ s', Drn wr base B ks F s' V ∧ Ct1 F s s' n a ∧ Bw V B w wr)) (fun i _ => F.R + 1 - (intOf i).toNat)
  case atStart => exact ⟨r, rfl, HS⟩
  case round =>
    obtain ⟨a, rfl, HW⟩ := hrel
    clear HS
    obtain ⟨s1, hd, hct, hB⟩ := HW.out
    have haR := hct.le
    obtain ⟨t1, t2, n1, n2, D1, D2, h⟩ := hd
    have x2 : wr.cell? ⟨B, 2, none⟩ = some (.int .i64 (s.came : Int)) := by rw [← hct.came]; exact h.at 2
    by_cases hlt : a < s.came
    · have hli : (a : Int) < (s.came : Int) := by omega
      have HD : Hid (Drn wr base B ks F s1 V ∧ Ct1 F s s1 n a ∧ Bw V B w wr) := ⟨⟨_, _, _, _, _, _, h⟩, hct, hB⟩
      have hf := hct.first h.inv hlt
      have hca : a < s1.came := by rw [hct.came]; exact hlt
      clear h hct hB HW
      go_wp2_with fail
      refine (dtake_any HD.out.1 a hca hf).mono ?_
      rintro e w3 ⟨rfl, hd3, hB3⟩
      have HB3 : Hid (Bw V B w w3) := HD.out.2.2.trans hB3
      obtain ⟨t1, t2, n1, n2, D1, D2, h⟩ := hd3
      have x6 : w3.cell? ⟨B, 6, none⟩ = some (sl V.gt n1 V.ct) := h.at 6
      obtain ⟨r', hF, hrR⟩ := h.first1 a (n : Int) (by omega) (by omega)
      obtain ⟨hnx, hgt⟩ := HD.out.2.1.next HD.out.1.inv hlt hF hrR
      have HS : Hid (∃ s', Drn w3 base B ks F s' V ∧ Ct1 F s s' n r' ∧ Bw V B w w3) := ⟨_, ⟨_, _, _, _, _, _, h⟩, hnx, HB3.out⟩
      have HG : Hid (Drc w3 base B ks F (take F s1 a) V t1 t2 n1 n2 D1 D2 ∧ Pk.Fst (xT F (take F s1 a)) a (n : Int) r' ∧ r' ≤ F.R) := ⟨h, hF, hrR⟩
      clear h hF hnx hB3 x2
      go_wp2_with fail
      refine (pfirst_eq HG.out.1.trow HG.out.1.l1 HG.out.1.i1 HG.out.1.b1 a F.R (n : Int) HG.out.1.r1 HG.out.2.1 HG.out.2.2).mono ?_
      rintro e w4 ⟨rfl, rfl⟩
      go_wp2
      exact ⟨⟨r', rfl, HS⟩, by simp [intOf]; omega⟩
    · have hli : ¬ (a : Int) < (s.came : Int) := by omega
      obtain ⟨r2, hF2, hr2⟩ := h.first2 n 0 (by omega) (by omega)
      have HS : Hid (∃ s', Drn wr base B ks F s' V ∧ Ct2 F s s' n r2 ∧ Bw V B w wr) := ⟨s1, ⟨_, _, _, _, _, _, h⟩, hct.done (by omega) HI.out hF2 hr2, hB⟩
      have x9 : wr.cell? ⟨B, 9, none⟩ = some (sl V.gs n2 V.cs) := h.at 9
      have HG : Hid (Drc wr base B ks F s1 V t1 t2 n1 n2 D1 D2 ∧ Pk.Fst (xS F s1) n 0 r2 ∧ r2 ≤ F.K) := ⟨h, hF2, hr2⟩
      clear h hct hB HW hF2 hr2
      go_wp2_with fail
      refine (pfirst_eq HG.out.1.irow HG.out.1.l2 HG.out.1.i2 HG.out.1.b2 n F.K 0 HG.out.1.r2 HG.out.2.1 HG.out.2.2).mono ?_
      rintro e w4 ⟨rfl, rfl⟩
      clear HG x9 x2
      go_wp2_with fail
      go_loopw [6] (fun i wr => ∃ a : Nat, i = .int .i64 (a : Int) ∧ Hid (∃ s', Drn wr base B ks F s' V ∧ Ct2 F s s' n a ∧ Bw V B w wr)) (fun i _ => F.K + 1 - (intOf i).toNat)
      case atStart => exact ⟨r2, rfl, HS⟩
      case round =>
        obtain ⟨q, rfl, HW⟩ := hrel
        clear HS
        obtain ⟨s2, hd, hct, hB⟩ := HW.out
        have hqK := hct.le
        obtain ⟨t1, t2, n1, n2, D1, D2, h⟩ := hd
        have x0 : wr.cell? ⟨B, 0, none⟩ = some V.vK := h.at 0
        obtain ⟨pK, cK, hvK⟩ : ∃ p c, V.vK = .slice p F.K c := by
          rcases h.srow.2 with ⟨hv, hn⟩ | ⟨g, cap, cur, hv, _⟩
          · exact ⟨none, 0, by rw [hv, hn]⟩
          · exact ⟨_, cap, hv⟩
        rw [hvK] at x0
        clear hvK
        by_cases hlt2 : q < F.K
        · have hli2 : (q : Int) < (F.K : Int) := by omega
          have x9 : wr.cell? ⟨B, 9, none⟩ = some (sl V.gs n2 V.cs) := h.at 9
          have HD : Hid (Drc wr base B ks F s2 V t1 t2 n1 n2 D1 D2 ∧ Ct2 F s s2 n q ∧ Bw V B w wr) := ⟨h, hct, hB⟩
          clear h hct hB HW
          go_wp2_with fail
          refine (pset_any HD.out.1.irow HD.out.1.l2 HD.out.1.i2 HD.out.1.b2 q (by have := HD.out.1.r2; omega) 0).mono ?_
          rintro e w3 ⟨rfl, t2', g1, g2, g3, g4⟩
          obtain ⟨hcl, hB3⟩ := HD.out.1.setS g1 g2 g4
          have h : Drc w3 base B ks F (rmA s2 q) V t1 t2' n1 n2 D1 D2 := { HD.out.1 with cl := hcl, inv := rmA_inv HD.out.1.inv q, l2 := g2, i1 := HD.out.1.i1, i2 := by rw [xS_set q hlt2 false (rmA s2 q) (fun _ => rfl)]; exact g3 }
          have HB3 : Hid (Bw V B w w3) := HD.out.2.2.trans hB3
          obtain ⟨r3, hF3, hr3⟩ := h.first2 q 0 (by omega) (by omega)
          obtain ⟨hnx, hgt⟩ := HD.out.2.1.next hlt2 hF3 hr3
          have HS : Hid (∃ s', Drn w3 base B ks F s' V ∧ Ct2 F s s' n r3 ∧ Bw V B w w3) := ⟨_, ⟨_, _, _, _, _, _, h⟩, hnx, HB3.out⟩
          have y9 : w3.cell? ⟨B, 9, none⟩ = some (sl V.gs n2 V.cs) := h.at 9
          have HG : Hid (Drc w3 base B ks F (rmA s2 q) V t1 t2' n1 n2 D1 D2 ∧ Pk.Fst (xS F (rmA s2 q)) q 0 r3 ∧ r3 ≤ F.K) := ⟨h, hF3, hr3⟩
          clear h hF3 hnx hB3 hcl g1 g2 g3 g4 x9 x0
          go_wp2_with fail
          refine (pfirst_eq HG.out.1.irow HG.out.1.l2 HG.out.1.i2 HG.out.1.b2 q F.K 0 HG.out.1.r2 HG.out.2.1 HG.out.2.2).mono ?_
          rintro e w4 ⟨rfl, rfl⟩
          go_wp2
          exact ⟨⟨r3, rfl, HS⟩, by simp [intOf]; omega⟩
        · have hli2 : ¬ (q : Int) < (F.K : Int) := by omega
          have HE : Hid (∃ s', Drn wr base B ks F s' V ∧ view F s' = (view F s).filter (fun e => Ky.lt e.key key) ∧ s'.came = s.came ∧ Bw V B w wr ∧ ∀ a, s.came ≤ a → s'.r a = s.r a) := ⟨s2, ⟨_, _, _, _, _, _, h⟩, cut_view HI.out (hct.done hlt2 HI.out h.inv) hk HN.out, hct.came, hB, fun a _ => by unfold Df.r; rw [hct.row]⟩
          clear h hct hB HW
          go_wp2
          go_end0
          exact ⟨rfl, HE.out⟩
end
end Go.Proofs.YthpilennljpamaaGreat

namespace Go.Proofs.YthpilennljpamaaGreat
open Go.RowKit Go.Lib Go.Shelf Dr
set_option linter.unusedVariables false
set_option maxRecDepth 100000

section
variable {w w1 : World} {base B : Nat} {ks : List (List UInt8)} {F : Fx} {s s' : Df} {V : Dv} {t1 t2 : List Int} {n1 n2 D1 D2 : Nat}

/-- Where the telling stands. -/
structure Dtl (F : Fx) (s : Df) (a m : Nat) : Prop where
  low : ∀ j, s.st j = true → j < m → s.g j ≤ a
  high : ∀ j, s.st j = true → m ≤ j → a ≤ s.g j
  is : m < F.K → s.st m = true
  le : m ≤ F.K

theorem Dtl.start (h : Inv F (num ks) (kw ks) s) {m : Nat} (hF : Pk.Fst (xS F s) 0 0 m) (hm : m ≤ F.K) : Dtl F s 0 m ∧ pv F s (0 * (F.K + 1) + m) = [] := by
  have hl : ∀ j, j < m → s.st j = false := fun j hj => xS_le (hF.le j (Nat.zero_le _) hj) (by omega)
  refine ⟨⟨fun j hs hj => ?_, fun _ _ _ => Nat.zero_le _, fun hlt => xS_gt hF.gt hlt, hm⟩, ?_⟩
  · rw [hl j hj] at hs; cases hs
  · have := pv_skip F s 0 0 m (by omega) fun j _ hj => .inl (hl j (by omega))
    rw [Nat.zero_add] at this
    rw [this, Nat.zero_mul]; rfl

theorem Dtl.emit (h : Inv F (num ks) (kw ks) s) {a m r : Nat} (ht : Dtl F s a m) (hm : m < F.K) (hg : s.g m = a) (hF : Pk.Fst (xS F s) (m + 1) 0 r) (hr : r ≤ F.K) : Dtl F s a r ∧ pv F s (a * (F.K + 1) + r) = pv F s (a * (F.K + 1) + m) ++ [s.a m] ∧ m < r := by
  have hl : ∀ j, m + 1 ≤ j → j < r → s.st j = false := fun j h1 hj => xS_le (hF.le j h1 hj) (by omega)
  have hge := hF.ge
  have hs := ht.is hm
  refine ⟨⟨fun j hj hlt => ?_, fun j hj hle => ?_, fun hlt => xS_gt hF.gt hlt, hr⟩, ?_, by omega⟩
  · by_cases h1 : j < m
    · exact ht.low j hj h1
    · by_cases h2 : j = m
      · subst h2; omega
      · rw [hl j (by omega) hlt] at hj; cases hj
  · have := h.rise m j hs hj (by omega)
    omega
  · have h2 := pv_skip F s a (m + 1) (r - (m + 1)) (by omega) fun j h1 h2 => .inl (hl j h1 (by omega))
    rw [show m + 1 + (r - (m + 1)) = r by omega] at h2
    rw [h2]
    have := pv_gap F s m hm hs
    rw [hg] at this
    exact this

theorem Dtl.over (h : Inv F (num ks) (kw ks) s) {a m : Nat} (ht : Dtl F s a m) (hx : m < F.K → s.g m ≠ a) : Dtl F s (a + 1) m ∧ pv F s ((a + 1) * (F.K + 1) + m) = pv F s (a * (F.K + 1) + m) ++ (if th F s a then [s.r a] else []) := by
  have hgt : ∀ j, s.st j = true → m ≤ j → a < s.g j := by
    intro j hj hle
    have hjK := (h.st j hj).1
    have h1 := ht.high m (ht.is (by omega)) (Nat.le_refl _)
    have h2 := hx (by omega)
    by_cases he : j = m
    · subst he; omega
    · have := h.rise m j (ht.is (by omega)) hj (by omega)
      omega
  refine ⟨⟨fun j hj hlt => by have := ht.low j hj hlt; omega, fun j hj hle => by have := hgt j hj hle; omega, ht.is, ht.le⟩, ?_⟩
  have h1 := pv_skip F s a m (F.K - m) (by have := ht.le; omega) fun j hj h2 => by
    cases hs : s.st j with
    | false => exact .inl rfl
    | true => have := hgt j hs hj; exact .inr (by omega)
  rw [show m + (F.K - m) = F.K by have := ht.le; omega] at h1
  have h2 := pv_skip F s (a + 1) 0 m (by have := ht.le; omega) fun j _ hj => by
    cases hs : s.st j with
    | false => exact .inl rfl
    | true => have := ht.low j hs (by omega); exact .inr (by omega)
  rw [Nat.zero_add] at h2
  rw [h2, Nat.add_zero, pv_row, h1]

theorem Dtl.done (h : Inv F (num ks) (kw ks) s) {m : Nat} (ht : Dtl F s s.came m) (hx : m < F.K → s.g m ≠ s.came) : pv F s ((s.came + 1) * (F.K + 1) + m) = view F s := by
  have h1 := (ht.over h hx).2
  rw [h1]
  have hn : th F s s.came = false := by unfold th; simp
  rw [hn]
  simp only [Bool.false_eq_true, if_false, List.append_nil]
  have hgt : ∀ j, s.st j = true → m ≤ j → False := by
    intro j hj hle
    have hjK := (h.st j hj)
    have h1 := ht.high m (ht.is (by omega)) (Nat.le_refl _)
    have h2 := hx (by omega)
    by_cases he : j = m
    · subst he; omega
    · have := h.rise m j (ht.is (by omega)) hj (by omega)
      omega
  have h1 := pv_skip F s s.came m (F.K - m) (by have := ht.le; omega) fun j hj h2 => by
    cases hs : s.st j with
    | false => exact .inl rfl
    | true => exact (hgt j hs hj).elim
  rw [show m + (F.K - m) = F.K by have := ht.le; omega] at h1
  rw [← h1]
  rfl

theorem pv_len (F : Fx) (s : Df) {c d : Nat} (h : c ≤ d) : (pv F s c).length ≤ (pv F s d).length := by
  unfold pv
  obtain ⟨k, rfl⟩ : ∃ k, d = c + k := ⟨d - c, by omega⟩
  rw [List.range_add, List.filterMap_append, List.length_append]
  omega

/-- 'append' of one entry to a row of the call's own. -/
theorem app_oneD {w0 : World} {l : List En} {e : En} (hb : (l.length + 1) * 40 ≤ 140737488355328) :
    ∀ W v (E : Nat), Below w0.heap.size w0 W → OwnE W w0.heap.size v l → Ens W (some ⟨E, 0, none⟩) [e] → ∃ v' W', (Builtin.append_ #[22, 22] 22 #[v, .slice (some ⟨E, 0, none⟩) 1 1]).run Tryz.prog W = .ok v' W' ∧ OwnE W' w0.heap.size v' (l ++ [e]) ∧ Below w0.heap.size w0 W' := by
  intro W v E hW hv hE
  obtain ⟨v', W', hr, ho, hg, hk⟩ := run_appE W w0.heap.size 22 v l [e] (some ⟨E, 0, none⟩) 1 1 rfl hE (fun h => by cases h) hv hb hW.size
  exact ⟨v', W', hr, ho, hW.grown hg hW.size (fun k hk => (World.ownsRow.lt hv k hk).1)⟩

/-- Between the rounds of the telling. -/
def Lw (w wr : World) (F : Fx) (s : Df) (out : Value) (a m : Nat) : Prop := OwnE wr w.heap.size out (pv F s (a * (F.K + 1) + m)) ∧ Below w.heap.size w wr ∧ Dtl F s a m

set_option maxHeartbeats 8000000 in
theorem dlist_any (h : Drn w base B ks F s V) (hv : (view F s).length ≤ 3518437208783) :
    Calls Tryz.prog 77 #[.pointer (some ⟨B, 0, none⟩)] w fun e w' => ∃ v, e = .returned v ∧ OwnE w' w.heap.size v (view F s) ∧ Below w.heap.size w w' := by
  obtain ⟨t1, t2, n1, n2, D1, D2, h⟩ := h
  have hbK := h.bK
  have hbR := h.bR
  have hcR := h.inv.came
  have HI : Hid (Inv F (num ks) (kw ks) s) := h.inv
  have HH : Hid (Drc w base B ks F s V t1 t2 n1 n2 D1 D2) := h
  have HD : Hid (∀ wr, Below w.heap.size w wr → Drc wr base B ks F s V t1 t2 n1 n2 D1 D2) := fun wr hb => h.still (Tn.of_below hb _)
  have HV : Hid ((view F s).length ≤ 3518437208783) := hv
  obtain ⟨pK, cK, hvK⟩ : ∃ p c, V.vK = .slice p F.K c := by
    rcases h.srow.2 with ⟨hv, hn⟩ | ⟨g, cap, cur, hv, _⟩
    · exact ⟨none, 0, by rw [hv, hn]⟩
    · exact ⟨_, cap, hv⟩
  have HK : Hid (V.vK = .slice pK F.K cK) := hvK
  obtain ⟨m0, hF, hm0⟩ := h.first2 0 0 (Nat.zero_le _) (by omega)
  have HF : Hid (Pk.Fst (xS F s) 0 0 m0 ∧ m0 ≤ F.K) := ⟨hF, hm0⟩
  obtain ⟨C, hC⟩ : ∃ C : Nat, s.came = C := ⟨_, rfl⟩
  have HC : Hid (s.came = C) := hC
  have x9 : w.cell? ⟨B, 9, none⟩ = some (sl V.gs n2 V.cs) := h.at 9
  have x2 : w.cell? ⟨B, 2, none⟩ = some (.int .i64 (C : Int)) := by rw [← hC]; exact h.at 2
  have HS : Hid (Lw w w F s (.slice none 0 0) 0 m0) := by
    obtain ⟨h1, h2⟩ := Dtl.start h.inv hF hm0
    exact ⟨by rw [h2]; exact OwnE.nil _ _, Below.refl _ _, h1⟩
  have hCb : C ≤ 8796093022207 := by omega
  clear h hv hvK hF hm0 hC hcR
  go_enter Tryz.func77, Tryz.ntmps77
  go_wp2_with fail
  refine (pfirst_eq HH.out.irow HH.out.l2 HH.out.i2 HH.out.b2 0 F.K 0 HH.out.r2 HF.out.1 HF.out.2).mono ?_
  rintro e w2 ⟨rfl, rfl⟩
  go_wp2_with fail
  clear x9 x2
  go_loopw [3, 4, 16] (fun ov mv iv wr => ∃ a m : Nat, a ≤ C + 1 ∧ mv = .int .i64 (m : Int) ∧ iv = .int .i64 (a : Int) ∧ Hid (Lw w2 wr F s ov a m) ∧ Hid (a = s.came + 1 → pv F s (a * (F.K + 1) + m) = view F s)) (fun _ _ iv _ => C + 1 - (intOf iv).toNat)
  case atStart => exact ⟨0, m0, Nat.zero_le _, rfl, rfl, HS, fun e => by omega⟩
  case round =>
    obtain ⟨a, m, haC, rfl, rfl, HW, HQ⟩ := hrel
    clear HS
    by_cases hlt : a < C + 1
    · have hli : (a : Int) < (C : Int) + 1 := by omega
      have hib : a ≤ 8796093022208 := by omega
      go_wp2_with fail
      go_loopw [3, 4] (fun ov mv wx => ∃ m : Nat, mv = .int .i64 (m : Int) ∧ Hid (Lw w2 wx F s ov a m)) (fun _ mv _ => F.K + 1 - (intOf mv).toNat)
      case atStart => exact ⟨m, rfl, HW⟩
      case round =>
        obtain ⟨m, rfl, HL⟩ := hrel
        clear HW
        have h := HD.out wr HL.out.2.1
        have hmK := HL.out.2.2.le
        have x0 : wr.cell? ⟨B, 0, none⟩ = some (.slice pK F.K cK) := by rw [← HK.out]; exact h.at 0
        have x8 : wr.cell? ⟨B, 8, none⟩ = some (sl V.gg F.K V.cg) := h.at 8
        have HX : Hid (Drc wr base B ks F s V t1 t2 n1 n2 D1 D2) := h
        clear h
        by_cases hm : m < F.K
        · have hmi : (m : Int) < (F.K : Int) := by omega
          have hm0 : (0 : Int) ≤ (m : Int) := by omega
          have gc := HX.out.gcell hm
          obtain ⟨y, hy⟩ : ∃ y : Nat, s.g m = y := ⟨_, rfl⟩
          have HY : Hid (s.g m = y) := hy
          rw [hy] at gc
          clear hy
          by_cases hya : y = a
          · subst hya
            obtain ⟨r, hF, hrK⟩ := HX.out.first2 (m + 1) 0 (by omega) (by omega)
            obtain ⟨hT, hpv, hgt⟩ := HL.out.2.2.emit HI.out hm HY.out hF hrK
            have HT : Hid (Dtl F s y r ∧ pv F s (y * (F.K + 1) + r) = pv F s (y * (F.K + 1) + m) ++ [s.a m] ∧ Pk.Fst (xS F s) (m + 1) 0 r ∧ r ≤ F.K) := ⟨hT, hpv, hF, hrK⟩
            obtain ⟨z0, z1, z2, z3⟩ := row_en HX.out.arow m hm
            have hsa : s.al.getD m En.zero = s.a m := rfl
            rw [hsa] at z0 z1 z2 z3
            obtain ⟨e, he⟩ : ∃ e, s.a m = e := ⟨_, rfl⟩
            rw [he] at z0 z1 z2 z3 HT
            have x7 : wr.cell? ⟨B, 7, none⟩ = some (sl V.ga F.K V.ca) := HX.out.at 7
            have hlen : (pv F s (y * (F.K + 1) + m)).length + 1 ≤ 3518437208783 := by
              have h1 : (pv F s (y * (F.K + 1) + r)).length ≤ (view F s).length := pv_len F s (by
                have h5 : y ≤ s.came := by have := (HI.out.st m (HL.out.2.2.is hm)).2; rw [HY.out] at this; exact this
                have h6 : y * (F.K + 1) ≤ s.came * (F.K + 1) := Nat.mul_le_mul_right _ h5
                unfold top
                omega)
              have := HV.out
              rw [hpv, List.length_append] at h1
              simp at h1
              omega
            have hbA : Below w2.heap.size w2 (wr.alloc (.cells #[.string e.key, .int .i64 e.s, .int .i64 e.g, .int .i64 e.c] 30)) := HL.out.2.1.alloc HL.out.2.1.size _
            obtain ⟨v3, w3, hr3, ho3, hb3⟩ := app_oneD (w0 := w2) (l := pv F s (y * (F.K + 1) + m)) (e := e) (by omega) _ u3 wr.heap.size hbA (HL.out.1.below ((Below.refl _ wr).alloc (Nat.le_refl _) _) (Nat.le_refl _)) (ens_one wr e)
            have HR3 : Hid _ := hr3
            have HS3 : Hid (Lw w2 w3 F s v3 y r) := ⟨by rw [HT.out.2.1]; exact ho3, hb3, HT.out.1⟩
            clear hr3 ho3 hb3 hbA hT hpv hF he hsa hlen
            have h3 := HD.out w3 HS3.out.2.1
            have y9 : w3.cell? ⟨B, 9, none⟩ = some (sl V.gs n2 V.cs) := h3.at 9
            have H3 : Hid (Drc w3 base B ks F s V t1 t2 n1 n2 D1 D2) := h3
            clear h3
            go_wp2_with (at_builtin; refine Lib.wpList_append_run _ rfl _ _ _ _ rfl _ _ rfl rfl _ _ HR3.out ?_)
            clear HX HR3 HL x0 x8 x7 gc z0 z1 z2 z3
            refine (pfirst_eq H3.out.irow H3.out.l2 H3.out.i2 H3.out.b2 (m + 1) F.K 0 H3.out.r2 HT.out.2.2.1 HT.out.2.2.2).mono ?_
            rintro e' w4 ⟨rfl, rfl⟩
            go_wp2
            exact ⟨⟨r, rfl, HS3⟩, by simp [intOf]; omega⟩
          · have hyi : ((y : Int) == (a : Int)) = false := by simp; omega
            have HO : Hid (Dtl F s (a + 1) m ∧ pv F s ((a + 1) * (F.K + 1) + m) = pv F s (a * (F.K + 1) + m) ++ (if th F s a then [s.r a] else [])) := HL.out.2.2.over HI.out (fun _ => by rw [HY.out]; exact hya)
            have HZ : Hid (a = s.came → pv F s ((a + 1) * (F.K + 1) + m) = view F s) := fun e => by subst e; exact HL.out.2.2.done HI.out (fun _ => by rw [HY.out]; exact hya)
            have x2 : wr.cell? ⟨B, 2, none⟩ = some (.int .i64 (C : Int)) := by rw [← HC.out]; exact HX.out.at 2
            have x6 : wr.cell? ⟨B, 6, none⟩ = some (sl V.gt n1 V.ct) := HX.out.at 6
            have x1 : wr.cell? ⟨B, 1, none⟩ = some V.vR := HX.out.at 1
            by_cases haC2 : a < C
            · have hai : (a : Int) < (C : Int) := by omega
              have haR : a < F.R := by have := HI.out.came; have := HC.out; omega
              have haRi : (a : Int) < (F.R : Int) := by omega
              have ha0 : (0 : Int) ≤ (a : Int) := by omega
              go_wp2_with fail
              refine (pat_any HX.out.trow HX.out.l1 HX.out.i1 HX.out.b1 a (by have := HX.out.r1; omega)).mono ?_
              rintro e' w4 ⟨rfl, rfl⟩
              have hxa : xT F s a = if th F s a then (F.k a : Int) + 1 else 0 := by unfold xT; rw [if_neg (by omega)]
              rw [hxa]
              cases hth : th F s a with
              | true =>
                have hkp : (0 : Int) < (F.k a : Int) + 1 := by omega
                simp only [if_true]
                generalize (F.k a : Int) + 1 = kk at *
                obtain ⟨gR, cR, hvR⟩ : ∃ g c, V.vR = sl g F.R c := by
                  rcases HX.out.rrow.2 with ⟨_, hn⟩ | ⟨g, cap, cur, hv, _⟩
                  · omega
                  · exact ⟨_, cap, hv⟩
                have hrr := HX.out.rrow
                rw [hvR] at hrr x1
                obtain ⟨z0, z1, z2, z3⟩ := row_en hrr a haR
                have hsa : s.row.getD a En.zero = s.r a := rfl
                rw [hsa] at z0 z1 z2 z3
                have hpv := HO.out.2
                rw [hth] at hpv
                simp only [if_true] at hpv
                obtain ⟨e, he⟩ : ∃ e, s.r a = e := ⟨_, rfl⟩
                rw [he] at z0 z1 z2 z3 hpv
                have hlen : (pv F s (a * (F.K + 1) + m)).length + 1 ≤ 3518437208783 := by
                  have h1 : (pv F s ((a + 1) * (F.K + 1) + m)).length ≤ (view F s).length := pv_len F s (by
                    have h6 : (a + 1) * (F.K + 1) ≤ s.came * (F.K + 1) := Nat.mul_le_mul_right _ (by have := HC.out; omega)
                    unfold top
                    omega)
                  have := HV.out
                  rw [hpv, List.length_append] at h1
                  simp at h1
                  omega
                have hbA : Below w2.heap.size w2 (w4.alloc (.cells #[.string e.key, .int .i64 e.s, .int .i64 e.g, .int .i64 e.c] 30)) := HL.out.2.1.alloc HL.out.2.1.size _
                obtain ⟨v3, w3, hr3, ho3, hb3⟩ := app_oneD (w0 := w2) (l := pv F s (a * (F.K + 1) + m)) (e := e) (by omega) _ u3 w4.heap.size hbA (HL.out.1.below ((Below.refl _ w4).alloc (Nat.le_refl _) _) (Nat.le_refl _)) (ens_one w4 e)
                have HR3 : Hid _ := hr3
                have HS3 : Hid (Lw w2 w3 F s v3 (a + 1) m) := ⟨by rw [hpv]; exact ho3, hb3, HO.out.1⟩
                clear hr3 ho3 hb3 hbA hpv he hsa hlen hrr hvR
                go_wp2_with (at_builtin; refine Lib.wpList_append_run _ rfl _ _ _ _ rfl _ _ rfl rfl _ _ HR3.out ?_)
                go_roundw
                case rel => exact ⟨a + 1, m, by omega, rfl, by go_num, HS3, fun e => HZ.out (by omega)⟩
                case measure => simp [intOf]; omega
              | false =>
                simp only [Bool.false_eq_true, if_false]
                have HS3 : Hid (Lw w2 w4 F s u3 (a + 1) m) := ⟨by have := HO.out.2; rw [hth] at this; simp only [Bool.false_eq_true, if_false, List.append_nil] at this; rw [this]; exact HL.out.1, HL.out.2.1, HO.out.1⟩
                go_wp2
                go_roundw
                case rel => exact ⟨a + 1, m, by omega, rfl, by go_num, HS3, fun e => HZ.out (by omega)⟩
                case measure => simp [intOf]; omega
            · have hai : ¬ (a : Int) < (C : Int) := by omega
              have HS3 : Hid (Lw w2 wr F s u3 (a + 1) m) := by
                have hth : th F s a = false := by unfold th; have := HC.out; simp; omega
                exact ⟨by have := HO.out.2; rw [hth] at this; simp only [Bool.false_eq_true, if_false, List.append_nil] at this; rw [this]; exact HL.out.1, HL.out.2.1, HO.out.1⟩
              go_wp2
              go_roundw
              case rel => exact ⟨a + 1, m, by omega, rfl, by go_num, HS3, fun e => HZ.out (by omega)⟩
              case measure => simp [intOf]; omega
        · have hmi : ¬ (m : Int) < (F.K : Int) := by omega
          have HO : Hid (Dtl F s (a + 1) m ∧ pv F s ((a + 1) * (F.K + 1) + m) = pv F s (a * (F.K + 1) + m) ++ (if th F s a then [s.r a] else [])) := HL.out.2.2.over HI.out (fun h => absurd h hm)
          have HZ : Hid (a = s.came → pv F s ((a + 1) * (F.K + 1) + m) = view F s) := fun e => by subst e; exact HL.out.2.2.done HI.out (fun h => absurd h hm)
          have x2 : wr.cell? ⟨B, 2, none⟩ = some (.int .i64 (C : Int)) := by rw [← HC.out]; exact HX.out.at 2
          have x6 : wr.cell? ⟨B, 6, none⟩ = some (sl V.gt n1 V.ct) := HX.out.at 6
          have x1 : wr.cell? ⟨B, 1, none⟩ = some V.vR := HX.out.at 1
          by_cases haC2 : a < C
          · have hai : (a : Int) < (C : Int) := by omega
            have haR : a < F.R := by have := HI.out.came; have := HC.out; omega
            have haRi : (a : Int) < (F.R : Int) := by omega
            have ha0 : (0 : Int) ≤ (a : Int) := by omega
            go_wp2_with fail
            refine (pat_any HX.out.trow HX.out.l1 HX.out.i1 HX.out.b1 a (by have := HX.out.r1; omega)).mono ?_
            rintro e' w4 ⟨rfl, rfl⟩
            have hxa : xT F s a = if th F s a then (F.k a : Int) + 1 else 0 := by unfold xT; rw [if_neg (by omega)]
            rw [hxa]
            cases hth : th F s a with
            | true =>
              have hkp : (0 : Int) < (F.k a : Int) + 1 := by omega
              simp only [if_true]
              generalize (F.k a : Int) + 1 = kk at *
              obtain ⟨gR, cR, hvR⟩ : ∃ g c, V.vR = sl g F.R c := by
                rcases HX.out.rrow.2 with ⟨_, hn⟩ | ⟨g, cap, cur, hv, _⟩
                · omega
                · exact ⟨_, cap, hv⟩
              have hrr := HX.out.rrow
              rw [hvR] at hrr x1
              obtain ⟨z0, z1, z2, z3⟩ := row_en hrr a haR
              have hsa : s.row.getD a En.zero = s.r a := rfl
              rw [hsa] at z0 z1 z2 z3
              have hpv := HO.out.2
              rw [hth] at hpv
              simp only [if_true] at hpv
              obtain ⟨e, he⟩ : ∃ e, s.r a = e := ⟨_, rfl⟩
              rw [he] at z0 z1 z2 z3 hpv
              have hlen : (pv F s (a * (F.K + 1) + m)).length + 1 ≤ 3518437208783 := by
                have h1 : (pv F s ((a + 1) * (F.K + 1) + m)).length ≤ (view F s).length := pv_len F s (by
                  have h6 : (a + 1) * (F.K + 1) ≤ s.came * (F.K + 1) := Nat.mul_le_mul_right _ (by have := HC.out; omega)
                  unfold top
                  omega)
                have := HV.out
                rw [hpv, List.length_append] at h1
                simp at h1
                omega
              have hbA : Below w2.heap.size w2 (w4.alloc (.cells #[.string e.key, .int .i64 e.s, .int .i64 e.g, .int .i64 e.c] 30)) := HL.out.2.1.alloc HL.out.2.1.size _
              obtain ⟨v3, w3, hr3, ho3, hb3⟩ := app_oneD (w0 := w2) (l := pv F s (a * (F.K + 1) + m)) (e := e) (by omega) _ u3 w4.heap.size hbA (HL.out.1.below ((Below.refl _ w4).alloc (Nat.le_refl _) _) (Nat.le_refl _)) (ens_one w4 e)
              have HR3 : Hid _ := hr3
              have HS3 : Hid (Lw w2 w3 F s v3 (a + 1) m) := ⟨by rw [hpv]; exact ho3, hb3, HO.out.1⟩
              clear hr3 ho3 hb3 hbA hpv he hsa hlen hrr hvR
              go_wp2_with (at_builtin; refine Lib.wpList_append_run _ rfl _ _ _ _ rfl _ _ rfl rfl _ _ HR3.out ?_)
              go_roundw
              case rel => exact ⟨a + 1, m, by omega, rfl, by go_num, HS3, fun e => HZ.out (by omega)⟩
              case measure => simp [intOf]; omega
            | false =>
              simp only [Bool.false_eq_true, if_false]
              have HS3 : Hid (Lw w2 w4 F s u3 (a + 1) m) := ⟨by have := HO.out.2; rw [hth] at this; simp only [Bool.false_eq_true, if_false, List.append_nil] at this; rw [this]; exact HL.out.1, HL.out.2.1, HO.out.1⟩
              go_wp2
              go_roundw
              case rel => exact ⟨a + 1, m, by omega, rfl, by go_num, HS3, fun e => HZ.out (by omega)⟩
              case measure => simp [intOf]; omega
          · have hai : ¬ (a : Int) < (C : Int) := by omega
            have HS3 : Hid (Lw w2 wr F s u3 (a + 1) m) := by
              have hth : th F s a = false := by unfold th; have := HC.out; simp; omega
              exact ⟨by have := HO.out.2; rw [hth] at this; simp only [Bool.false_eq_true, if_false, List.append_nil] at this; rw [this]; exact HL.out.1, HL.out.2.1, HO.out.1⟩
            go_wp2
            go_roundw
            case rel => exact ⟨a + 1, m, by omega, rfl, by go_num, HS3, fun e => HZ.out (by omega)⟩
            case measure => simp [intOf]; omega
    · have hli : ¬ (a : Int) < (C : Int) + 1 := by omega
      have HE : Hid (OwnE wr w2.heap.size u3 (view F s) ∧ Below w2.heap.size w2 wr) := by
        have h1 := HW.out.1
        rw [HQ.out (by rw [HC.out]; omega)] at h1
        exact ⟨h1, HW.out.2.1⟩
      clear HW HQ
      go_wp2
      go_ret
      exact ⟨_, rfl, HE.out.1, HE.out.2⟩
end
end Go.Proofs.YthpilennljpamaaGreat

namespace Go.Proofs.YthpilennljpamaaGreat
open Go.RowKit Go.Lib Go.Shelf Dr
attribute [local go_sem] Oper.semAt_some
set_option linter.unusedVariables false
set_option maxRecDepth 100000

/-- Entries by a delta, of which it is known that it is not refused. -/
def entS (l : List En) (d : De) : List En :=
  if d.k = 1 then Pg.putL l d.e
  else if d.k = 2 then without l d.key
  else if d.k = 3 then l.filter fun e => Ky.lt e.key d.key
  else if d.k = 4 then l ++ d.rt.l
  else l
def entsL (pl : List En) (ds : List De) : List En := ds.foldl entS pl

theorem entsL_snoc (pl : List En) (ds : List De) (d : De) : entsL pl (ds ++ [d]) = entS (entsL pl ds) d := by simp [entsL]

section
variable {w w' : World} {base B : Nat} {ks : List (List UInt8)} {F : Fx} {s : Df} {V : Dv}

theorem Drn.abides (h : Drn w base B ks F s V) {row : Option Nat} {m : Nat} (hg : w.grownBy w' row) (hr : ∀ r, row = some r → m ≤ r ∧ ∃ o : Obj, w.heap[r]? = some o ∧ o.isCells = false) : Drn w' base B ks F s V := by
  obtain ⟨t1, t2, n1, n2, D1, D2, h⟩ := h
  exact ⟨t1, t2, n1, n2, D1, D2, { h with cl := h.cl.abides hg hr }⟩

theorem Drn.bs (h : Drn w base B ks F s V) : ∀ x ∈ V.bs B, base ≤ x ∧ x < w.heap.size ∧ ∃ o : Obj, w.heap[x]? = some o ∧ o.isCells = true := by
  obtain ⟨t1, t2, n1, n2, D1, D2, h⟩ := h
  intro x hx
  obtain ⟨h1, cs, t, h2⟩ := h.bs_ge x hx
  exact ⟨h1, (Array.getElem?_eq_some_iff.1 h2).1, _, h2, rfl⟩

theorem comes_view (h : Inv F (num ks) (kw ks) s) : ∀ m, s.came + m ≤ F.R → view F (comes s m) = view F s ++ (List.range m).map fun i => s.r (s.came + i) := by
  intro m
  induction m with
  | zero => intro _; simp; rfl
  | succ m ih =>
    intro hm
    have h1 := come_view (Inv.comes h (m := m) (by omega)) (by show s.came + m < F.R; omega)
    have h2 : comes s (m + 1) = come1 (comes s m) := rfl
    rw [h2, h1, ih (by omega), List.range_succ, List.map_append, List.append_assoc]
    rfl
end

/-- Between the rounds of entries. -/
structure Es (w W : World) (base B P b m : Nat) (ks : List (List UInt8)) (F : Fx) (V : Dv) (row l : List En) (c : Nat) : Prop where
  dr : ∃ s, Drn W base B ks F s V ∧ view F s = l ∧ s.came = c ∧ ∀ a, c ≤ a → s.r a = row.getD a En.zero
  bx : Bk W P 99 #[.pointer (some ⟨B, 0, none⟩)]
  np : P ∉ V.bs B ∧ b ∉ V.bs B
  below : Below w.heap.size w W
  sz : m ≤ W.heap.size

theorem Es.abides {w W W' : World} {base B P b m c : Nat} {ks : List (List UInt8)} {F : Fx} {V : Dv} {row l : List En} {rw' : Option Nat} {k : Nat} (h : Es w W base B P b m ks F V row l c) (hm : w.heap.size ≤ k) (hg : W.grownBy W' rw') (hr : ∀ r, rw' = some r → k ≤ r ∧ ∃ o : Obj, W.heap[r]? = some o ∧ o.isCells = false) : Es w W' base B P b m ks F V row l c where
  dr := by
    obtain ⟨s, h1, h2⟩ := h.dr
    exact ⟨s, h1.abides hg hr, h2⟩
  bx := bk_from h.bx hg hr
  np := h.np
  below := h.below.grown hg h.below.size (fun k hk => by have := (hr k hk).1; omega)
  sz := Nat.le_trans h.sz hg.size
theorem Es.still {w W W' : World} {base B P b m c : Nat} {ks : List (List UInt8)} {F : Fx} {V : Dv} {row l : List En} (h : Es w W base B P b m ks F V row l c) (ht : Tn [] W W') : Es w W' base B P b m ks F V row l c where
  dr := by
    obtain ⟨s, h1, h2⟩ := h.dr
    exact ⟨s, h1.still ht, h2⟩
  bx := h.bx.tn ht (by simp)
  np := h.np
  below := h.below.trans (ht.below h.below.size (by simp))
  sz := Nat.le_trans h.sz ht.size
/-- A step of the draft is done. -/
theorem Es.step {w W W' : World} {base B P b m c c' : Nat} {ks : List (List UInt8)} {F : Fx} {V : Dv} {row l l' : List En} (h : Es w W base B P b m ks F V row l c) (hb : w.heap.size ≤ base) {s' : Df} (hd : Drn W' base B ks F s' V) (hv : view F s' = l') (hc : s'.came = c') (hr : ∀ a, c' ≤ a → s'.r a = row.getD a En.zero) (ht : Bw V B W W') : Es w W' base B P b m ks F V row l' c' ∧ Tn (V.bs B) W W' := by
  obtain ⟨s, h1, _⟩ := h.dr
  refine ⟨⟨⟨s', hd, hv, hc, hr⟩, h.bx.tn ht h.np.1, h.np, h.below.trans (Tn.below ht h.below.size (fun x hx => by have := (h1.bs x hx).1; omega)), Nat.le_trans h.sz ht.size⟩, ht⟩

theorem keys_known (pl : List En) (ds : List De) : ∀ d ∈ ds, kw (keysOf (allTexts pl ds)) d.key ∧ kw (keysOf (allTexts pl ds)) d.e.key := by
  intro d hd
  have h := (keysOf_facts (allTexts pl ds)).2
  have hm : ∀ x ∈ [d.key.toList, d.e.key.toList], x ∈ allTexts pl ds := fun x hx => by
    unfold allTexts textsOf
    exact List.mem_append_left _ (List.mem_flatten.2 ⟨_, List.mem_map.2 ⟨d, hd, rfl⟩, hx⟩)
  exact ⟨h _ (hm _ (by simp)), h _ (hm _ (by simp))⟩

set_option maxHeartbeats 16000000 in
theorem entries_any (pf : Bool) (plo phi : ByteArray) (pr : Int) (pp : Option Addr) (pn pc : Nat) (pl : List En) (p : Option Addr) (len cap : Nat) (L : List Dm) (w : World) (hlen : pl.length = pn) (hx : Ens w pp pl) (hp : pp = none → pn = 0) (hL : L.length = len) (hD : Des w p L)
    (hRt : (pl ++ rowsOf (L.map (·.d)).reverse).length ≤ 3518437208782) (hKt : (allTexts pl (L.map (·.d)).reverse).length ≤ 7036874417766) (hEn : (entsL pl (L.map (·.d)).reverse).length ≤ 3518437208783)
    (hnr : ∀ d ∈ (L.map (·.d)).reverse, d.k ≠ 4 → d.rt.l = []) :
    Calls Tryz.prog 54 #[pgv pf plo phi pr pp pn pc, .slice p len cap] w fun e w' => ∃ v, e = .returned v ∧ OwnE w' w.heap.size v (entsL pl (L.map (·.d)).reverse) ∧ Below w.heap.size w w' := by
  have hll : len ≤ 4398046511104 := by
    have h1 : (textsOf (L.map (·.d)).reverse).length = 2 * len := by
      have : ∀ ds : List De, (textsOf ds).length = 2 * ds.length := fun ds => by
        induction ds with
        | nil => rfl
        | cons d r ih => simp only [textsOf, List.map_cons, List.flatten_cons, List.length_append, List.length_cons, List.length_nil] at ih ⊢; omega
      rw [this]; simp [hL]
    unfold allTexts at hKt
    rw [List.length_append] at hKt
    omega
  have hpnb : pn ≤ 3518437208782 := by rw [List.length_append] at hRt; omega
  obtain ⟨ds, hds⟩ : ∃ ds : List De, (L.map (·.d)).reverse = ds := ⟨_, rfl⟩
  rw [hds] at hRt hKt hEn hnr ⊢
  have HDSE : Hid ((L.map (·.d)).reverse = ds) := hds
  have hknown := keys_known pl ds
  obtain ⟨ks, hks⟩ : ∃ ks, keysOf (allTexts pl ds) = ks := ⟨_, rfl⟩
  rw [hks] at hknown
  obtain ⟨row, hrow⟩ : ∃ row, pl ++ rowsOf ds = row := ⟨_, rfl⟩
  refine calls_of_wpAt Tryz.func54 rfl ?_
  simp only [Tryz.ntmps54, List.size_toArray, List.length_cons, List.length_nil, Nat.reduceAdd, Nat.reduceSub, Array.replicate_succ, Array.replicate_zero, List.push_toArray, List.append_toArray, List.nil_append, List.cons_append]
  have HX : Hid (Ens w pp pl) := hx
  have HLn : Hid (pl.length = pn) := hlen
  have HPN : Hid (pp = none → pn = 0) := hp
  have HD : Hid (Des w p L) := hD
  have HL : Hid (L.length = len) := hL
  obtain ⟨w0, hw0⟩ : ∃ w0, w0 = w.alloc (.cells #[.bool pf, .string plo, .string phi, .int .i64 pr, .slice pp pn pc] 24) := ⟨_, rfl⟩
  have HB0 : Hid (Below w.heap.size w w0) := by rw [hw0]; exact (Below.refl _ _).alloc (Nat.le_refl _) _
  have HK0 : Hid (Bk w0 w.heap.size 24 #[.bool pf, .string plo, .string phi, .int .i64 pr, .slice pp pn pc]) := by rw [hw0]; exact Bk.new _ _ _
  have HND : Hid (Calls Tryz.prog 72 #[pgv pf plo phi pr pp pn pc, .slice p len cap] w0 fun e w' => Ndr w0 pl ds e w') := by
    have := newDraft_any pf plo phi pr pp pn pc pl p len cap L w0 hlen (hx.below HB0.out (Nat.le_refl _)) hp hL (hD.below HB0.out (Nat.le_refl _)) (by rw [hds]; exact hRt) (by rw [hds]; exact hKt)
    rw [hds] at this
    exact this
  have hw0s : w.heap.size ≤ w0.heap.size := HB0.out.size
  clear hx hlen hp hD hL
  have a0 : w0.cell? ⟨w.heap.size, 0, none⟩ = some (.bool pf) := HK0.out.cell 0
  have a1 : w0.cell? ⟨w.heap.size, 1, none⟩ = some (.string plo) := HK0.out.cell 1
  have a2 : w0.cell? ⟨w.heap.size, 2, none⟩ = some (.string phi) := HK0.out.cell 2
  have a3 : w0.cell? ⟨w.heap.size, 3, none⟩ = some (.int .i64 pr) := HK0.out.cell 3
  have a4 : w0.cell? ⟨w.heap.size, 4, none⟩ = some (.slice pp pn pc) := HK0.out.cell 4
  refine wpAt_seq_k fun K hK => wpAt_of_wp ?_
  go_wp2
  rw [← hw0]
  clear hw0
  refine wpAt_seq_k fun K hK => wpAt_of_wp ?_
  go_wp2_with fail
  refine HND.out.mono ?_
  rintro e w1 ⟨B, V, rfl, hdr, hb1⟩
  rw [hks, hrow] at hdr
  clear HND a0 a1 a2 a3 a4
  obtain ⟨PP, hPP⟩ : ∃ PP, w1.heap.size = PP := ⟨_, rfl⟩
  obtain ⟨w2, hw2⟩ : ∃ w2, w2 = w1.alloc (.cells #[.pointer (some ⟨B, 0, none⟩)] 99) := ⟨_, rfl⟩
  have ht2 : Tn [] w1 w2 := by rw [hw2]; exact (Tn.refl [] _).alloc _
  have hK2' : Bk w2 w.heap.size 24 #[.bool pf, .string plo, .string phi, .int .i64 pr, .slice pp pn pc] := (HK0.out.below hb1 HK0.out.lt).tn ht2 (by simp)
  have hbs := hdr.bs
  have hPn : PP ∉ V.bs B := fun h => by have := (hbs PP h).2.1; omega
  have hP2 : Bk w2 PP 99 #[.pointer (some ⟨B, 0, none⟩)] := by rw [hw2, ← hPP]; exact Bk.new _ _ _
  have hAn : w.heap.size ∉ V.bs B := fun h => by have := (hbs _ h).1; have := HK0.out.lt; omega
  have HP2 : Hid (Bk w2 PP 99 #[.pointer (some ⟨B, 0, none⟩)] ∧ Bk w2 w.heap.size 24 #[.bool pf, .string plo, .string phi, .int .i64 pr, .slice pp pn pc] ∧ Drn w2 w0.heap.size B ks (fx0 ks row) (df0 ks row) V ∧ Below w.heap.size w w2) := ⟨hP2, hK2', hdr.still ht2, HB0.out.trans ((hb1.mono hw0s).trans (ht2.below (by have := hb1.size; omega) (by simp)))⟩
  clear hdr hb1 ht2 hK2' hbs hP2
  go_wp2
  rw [← hw2]
  clear hw2
  refine wpAt_seq_k fun K hK => wpAt_of_wp ?_
  have p0 : w2.cell? ⟨PP, 0, none⟩ = some (.pointer (some ⟨B, 0, none⟩)) := HP2.out.1.cell 0
  have a4 : w2.cell? ⟨w.heap.size, 4, none⟩ = some (.slice pp pn pc) := HP2.out.2.1.cell 4
  go_wp2_with fail
  have hrl : row.length = pn + (rowsOf ds).length := by rw [← hrow, List.length_append, HLn.out]
  refine (come_any HP2.out.2.2.1 pn (by show 0 + pn ≤ row.length; omega)).mono ?_
  rintro e w3 ⟨rfl, hdr3, hbw3⟩
  have hinv0 := HP2.out.2.2.1.inv
  have hE3 : ∀ b, b ∉ V.bs B → Es w w3 w0.heap.size B PP b 0 ks (fx0 ks row) V row pl pn := fun b hb => by
    refine ⟨⟨_, hdr3, ?_, ?_, fun a _ => rfl⟩, HP2.out.1.tn hbw3 hPn, ⟨hPn, hb⟩, HP2.out.2.2.2.trans (Tn.below hbw3 HP2.out.2.2.2.size (fun x hx => by have := (HP2.out.2.2.1.bs x hx).1; omega)), Nat.zero_le _⟩
    · rw [comes_view hinv0 pn (by show 0 + pn ≤ row.length; omega), view0, List.nil_append]
      apply List.ext_getElem?
      intro j
      by_cases hj : j < pn
      · have hjl : j < pl.length := by rw [HLn.out]; exact hj
        have hjr : j < row.length := by omega
        simp only [List.getElem?_map, List.getElem?_range hj, Option.map_some]
        show some (row.getD (0 + j) En.zero) = _
        rw [Nat.zero_add, List.getD_eq_getElem?_getD, ← hrow, List.getElem?_append_left hjl, List.getElem?_eq_getElem hjl]
        rfl
      · rw [List.getElem?_eq_none (by simp; omega), List.getElem?_eq_none (by rw [HLn.out]; omega)]
    · show 0 + pn = pn
      omega
  have HE3 : Hid (∀ b, b ∉ V.bs B → Es w w3 w0.heap.size B PP b 0 ks (fx0 ks row) V row pl pn) := hE3
  have hbs3 := hdr3.bs
  clear hE3 hdr3 hbw3 p0 a4 hinv0
  go_wp2
  refine wpAt_seq_k fun K hK => ?_
  have HK : Hid _ := hK
  clear hK
  refine wpAt_seq_k fun K2 hK2 => wpAt_of_wp ?_
  go_wp2_with fail
  refine (backD_any p len cap w3).mono ?_
  rintro e w4 ⟨rfl, hw4⟩
  have hbn : w3.heap.size ∉ V.bs B := fun h => by have := (hbs3 _ h).2.1; omega
  have ht4 : Tn [] w3 w4 := by rw [hw4]; exact (Tn.refl _ _).alloc _
  have hE4 : Es w w4 w0.heap.size B PP w3.heap.size w4.heap.size ks (fx0 ks row) V row pl pn := { (HE3.out _ hbn).still ht4 with sz := Nat.le_refl _ }
  have hk4 : Bk w4 w3.heap.size 25 #[.slice p len cap] := by rw [hw4]; exact Bk.new _ _ _
  have hs4 : w3.heap.size < w4.heap.size := hk4.lt
  have hseq := backD_stops HL.out hll HD.out hk4 (Alike.of_below hE4.below) hE4.below.size
  have HDS : Hid (∀ W, Below w.heap.size w W → Des W p L) := fun W hW => HD.out.below hW (Nat.le_refl _)
  have hws := hE4.below.size
  have hs3 : w.heap.size ≤ w3.heap.size := (HE3.out _ hbn).below.size
  clear hw4 ht4 hk4 HE3 hbs3
  go_wp2
  refine wpAt_block ?_
  refine wpAt_boxed ?A Tryz.func54 (gf := 93) (lb := #[.pointer (some ⟨w3.heap.size, 0, none⟩)]) rfl (enters_of Tryz.func93 (by kernel_rfl) rfl)
    hseq KpB.t (fun W l o o' hl _ _ _ => ⟨fun k hk => World.putObj_heap_other (by omega), World.putObj_heap_other (by omega)⟩) (Below.refl _ _) (fun _ => rfl)
    (fun pre W => Es w W w0.heap.size B PP w3.heap.size w4.heap.size ks (fx0 ks row) V row (entsL pl (pre.map (·.2.d))) (pl ++ rowsOf (pre.map (·.2.d))).length)
    (fun _ _ _ => False)
    (fun _ _ _ => False)
    (fun s A B' row hs hg hr => hs.abides (k := w4.heap.size) (by omega) hg hr)
    (fun cc s A B row hs hg hr => hs.elim)
    (by
      have e : (pl ++ rowsOf []).length = pn := by simp [rowsOf, HLn.out]
      show Es _ _ _ _ _ _ _ _ _ _ _ (entsL pl []) (pl ++ rowsOf []).length
      rw [e]
      exact hE4)
    (fun x bx W => w4.heap.size ≤ bx ∧ Bk W bx 32 x.2.cells.toArray)
    (fun x bx _ A B' row hs hg hr => ⟨hs.1, bk_from hs.2 hg hr⟩)
    ?assign ?body ?done (fun D cc pre W _ _ h _ => h.elim) (fun D cc pre W _ _ h _ => h.elim)
  case assign =>
    rintro l pre x W K hL hK
    gi_wp2
    have ht : Tn [] W (W.alloc (.cells x.2.cells.toArray 32)) := (Tn.refl _ _).alloc _
    obtain ⟨bx, hbx⟩ : ∃ bx, W.heap.size = bx := ⟨_, rfl⟩
    have kx : Bk (W.alloc (.cells x.2.cells.toArray 32)) bx 32 x.2.cells.toArray := by rw [← hbx]; exact Bk.new _ _ _
    have hle : w4.heap.size ≤ bx := by have := hL.sz; omega
    rw [hbx]
    refine hK bx _ ((keeps_tn ht (by simp)).from _) ⟨fun k hk => ht.block k (by omega) (by simp), ht.block _ (by omega) (by simp)⟩ (hL.still ht) ⟨hle, kx⟩
  case done =>
    rintro D zs W hD rfl hT hK2
    rw [Dl.bw_map, hds] at hT
    have HT : Hid (Es w W w0.heap.size B PP w3.heap.size w4.heap.size ks (fx0 ks row) V row (entsL pl ds) (pl ++ rowsOf ds).length) := hT
    have HDW : Hid (W.heap[D]? = some (.deferred (some []))) := hK2
    have p0 : W.cell? ⟨PP, 0, none⟩ = some (.pointer (some ⟨B, 0, none⟩)) := hT.bx.cell 0
    clear hT hK2
    refine HK.out _ _ (wpAt_of_wp ?_)
    clear HK K
    go_wp2_with fail
    obtain ⟨s, hd, hv, _⟩ := HT.out.dr
    refine (dlist_any hd (by rw [hv]; exact hEn)).mono ?_
    rw [hv]
    rintro e w5 ⟨v5, rfl, ho5, hb5⟩
    have hdl : D < W.heap.size := (Array.getElem?_eq_some_iff.1 HDW.out).1
    have hD5 : w5.heap[D]? = some (.deferred (some [])) := (hb5.block D hdl).trans HDW.out
    have HE : Hid (OwnE w5 w.heap.size v5 (entsL pl ds) ∧ Below w.heap.size w w5) := ⟨ho5.mono HT.out.below.size, HT.out.below.trans (hb5.mono HT.out.below.size)⟩
    clear ho5 hb5 hd hv
    go_wp2
    refine ⟨by simp, .inl ⟨_, _, rfl, run_takeDeferred hD5, ?_⟩⟩
    have hbe : Below w.heap.size w5 (w5.putObj D (.deferred none)) := ⟨rfl, rfl, rfl, by simp, fun k hk => World.putObj_heap_other (by omega)⟩
    refine ⟨v5, results_tmp (fn := Tryz.f54) (t := 4) rfl _ _ _, v5, rfl, ?_, HE.out.2.trans hbe⟩
    have hg : w5.grownBy (w5.putObj D (.deferred none)) (some D) := ⟨rfl, rfl, rfl, by simp, fun k _ hk => World.putObj_heap_other (fun e => hk (by rw [e]))⟩
    refine row_tn HE.out.1 (tn_grown hg) fun k hk hm => ?_
    obtain ⟨o, ho, hc⟩ := row_kind HE.out.1 hk
    simp at hm
    subst hm
    exact dd_ne hD5 ho hc rfl
  case body =>
    rintro l pre x bx W hl2 hT ⟨hbx, kx⟩ hpre
    have hxm := Dl.bw_mem hpre
    have hxds : x.2.d ∈ ds := by
      rw [← hds]
      exact List.mem_reverse.2 (List.mem_map.2 ⟨x.2, List.mem_of_getElem? hxm, rfl⟩)
    have hnrx := hnr _ hxds
    obtain ⟨hkn1, hkn2⟩ := hknown _ hxds
    have hOk : x.2.Ok W := by
      obtain ⟨b, o, -, hc⟩ := HDS.out W hT.below (by have := (List.getElem?_eq_some_iff.1 hxm).1; omega)
      exact (hc _ _ hxm).2
    obtain ⟨xi, ⟨⟨dk, ⟨dek, des, deg, dec⟩, dkey, dpg, ⟨dleaf, dlo, dhi, dr, dl⟩⟩, dp, dn, dc⟩⟩ := x
    simp only at hnrx hkn1 hkn2
    obtain ⟨ds1, hds1⟩ : ∃ ds1 : List De, pre.map (·.2.d) = ds1 := ⟨_, rfl⟩
    have hds2 : (pre ++ [(xi, (⟨⟨dk, ⟨dek, des, deg, dec⟩, dkey, dpg, ⟨dleaf, dlo, dhi, dr, dl⟩⟩, dp, dn, dc⟩ : Dm))]).map (·.2.d) = ds1 ++ [⟨dk, ⟨dek, des, deg, dec⟩, dkey, dpg, ⟨dleaf, dlo, dhi, dr, dl⟩⟩] := by rw [List.map_append, hds1]; rfl
    rw [hds1] at hT
    have hpart : ∃ tl, row = pl ++ rowsOf ds1 ++ dl ++ tl := by
      obtain ⟨tl, htl⟩ := hpre
      refine ⟨rowsOf (tl.map (·.2.d)), ?_⟩
      have h1 : ds = ds1 ++ [⟨dk, ⟨dek, des, deg, dec⟩, dkey, dpg, ⟨dleaf, dlo, dhi, dr, dl⟩⟩] ++ tl.map (·.2.d) := by
        rw [← hds, ← Dl.bw_map, ← htl, List.map_append, hds2]
      rw [← hrow, h1]
      simp [rowsOf]
    have HT : Hid (Es w W w0.heap.size B PP w3.heap.size w4.heap.size ks (fx0 ks row) V row (entsL pl ds1) (pl ++ rowsOf ds1).length) := hT
    have HKX : Hid (Bk W bx 32 #[.int .i64 dk, .string dek, .int .i64 des, .int .i64 deg, .int .i64 dec, .string dkey, .int .i64 dpg, .bool dleaf, .string dlo, .string dhi, .int .i64 dr, .slice dp dn dc]) := kx
    have hdn := hOk.len
    simp only at hdn
    have p0 : W.cell? ⟨PP, 0, none⟩ = some (.pointer (some ⟨B, 0, none⟩)) := hT.bx.cell 0
    have x0 : W.cell? ⟨bx, 0, none⟩ = some (.int .i64 dk) := HKX.out.cell 0
    have x1 : W.cell? ⟨bx, 1, none⟩ = some (.string dek) := HKX.out.cell 1
    have x2 : W.cell? ⟨bx, 2, none⟩ = some (.int .i64 des) := HKX.out.cell 2
    have x3 : W.cell? ⟨bx, 3, none⟩ = some (.int .i64 deg) := HKX.out.cell 3
    have x4 : W.cell? ⟨bx, 4, none⟩ = some (.int .i64 dec) := HKX.out.cell 4
    have x5 : W.cell? ⟨bx, 5, none⟩ = some (.string dkey) := HKX.out.cell 5
    have x11 : W.cell? ⟨bx, 11, none⟩ = some (.slice dp dn dc) := HKX.out.cell 11
    have HFIN : Hid (∀ W', Es w W' w0.heap.size B PP w3.heap.size w4.heap.size ks (fx0 ks row) V row (entsL pl (ds1 ++ [⟨dk, ⟨dek, des, deg, dec⟩, dkey, dpg, ⟨dleaf, dlo, dhi, dr, dl⟩⟩])) (pl ++ rowsOf (ds1 ++ [⟨dk, ⟨dek, des, deg, dec⟩, dkey, dpg, ⟨dleaf, dlo, dhi, dr, dl⟩⟩])).length ∧ Tn (V.bs B) W W' → KeepsFrom w4.heap.size W W' ∧ KpB w.heap.size w3.heap.size W W' ∧ Es w W' w0.heap.size B PP w3.heap.size w4.heap.size ks (fx0 ks row) V row (entsL pl ((pre ++ [(xi, (⟨⟨dk, ⟨dek, des, deg, dec⟩, dkey, dpg, ⟨dleaf, dlo, dhi, dr, dl⟩⟩, dp, dn, dc⟩ : Dm))]).map (·.2.d))) (pl ++ rowsOf ((pre ++ [(xi, (⟨⟨dk, ⟨dek, des, deg, dec⟩, dkey, dpg, ⟨dleaf, dlo, dhi, dr, dl⟩⟩, dp, dn, dc⟩ : Dm))]).map (·.2.d))).length) := by
      rintro W' ⟨h1, h2⟩
      obtain ⟨s, hd, _⟩ := HT.out.dr
      have hbs := hd.bs
      have hsz := HT.out.sz
      refine ⟨(keeps_tn h2 (fun y hy => (hbs y hy).2.2)).from _, ⟨fun k hk => h2.block k (by omega) (fun hm => by have := (hbs k hm).1; omega), h2.block _ (by omega) HT.out.np.2⟩, ?_⟩
      rw [hds2]
      exact h1
    by_cases k1 : dk = 1
    · subst k1
      obtain ⟨s, hd, hv, hc, hr⟩ := HT.out.dr
      have hdl0 : dl = [] := hnrx (by decide)
      gi_wp2_with fail
      refine ⟨trivial, ?_⟩
      refine (CallsIn.inRound l (callsIn_wide.2 (dput_any hd ⟨dek, des, deg, dec⟩ hkn2))).mono ?_
      rintro e W2 ⟨rfl, s', h1, h2, h3, h4, h5⟩
      have HE : Hid (Es w W2 w0.heap.size B PP w3.heap.size w4.heap.size ks (fx0 ks row) V row (entsL pl (ds1 ++ [⟨1, ⟨dek, des, deg, dec⟩, dkey, dpg, ⟨dleaf, dlo, dhi, dr, dl⟩⟩])) (pl ++ rowsOf (ds1 ++ [⟨1, ⟨dek, des, deg, dec⟩, dkey, dpg, ⟨dleaf, dlo, dhi, dr, dl⟩⟩])).length ∧ Tn (V.bs B) W W2) := by
        have el : (pl ++ rowsOf (ds1 ++ [⟨1, ⟨dek, des, deg, dec⟩, dkey, dpg, ⟨dleaf, dlo, dhi, dr, dl⟩⟩])).length = (pl ++ rowsOf ds1).length := by rw [rowsOf_snoc]; simp [hdl0]
        rw [el]
        refine HT.out.step hw0s h1 ?_ (by rw [h3, hc]) (fun a ha => (h5 a (by rw [hc]; exact ha)).trans (hr a ha)) h4
        rw [h2, hv, entsL_snoc]
        rfl
      clear h1 h2 h3 h4 h5 hd hv hc hr
      gi_wp2
      exact HFIN.out _ HE.out
    · by_cases k2 : dk = 2
      · subst k2
        obtain ⟨s, hd, hv, hc, hr⟩ := HT.out.dr
        have hdl0 : dl = [] := hnrx (by decide)
        gi_wp2_with fail
        refine ⟨trivial, ?_⟩
        refine (CallsIn.inRound l (callsIn_wide.2 (dremove_any hd dkey hkn1))).mono ?_
        rintro e W2 ⟨rfl, s', h1, h2, h3, h4, h5⟩
        have HE : Hid (Es w W2 w0.heap.size B PP w3.heap.size w4.heap.size ks (fx0 ks row) V row (entsL pl (ds1 ++ [⟨2, ⟨dek, des, deg, dec⟩, dkey, dpg, ⟨dleaf, dlo, dhi, dr, dl⟩⟩])) (pl ++ rowsOf (ds1 ++ [⟨2, ⟨dek, des, deg, dec⟩, dkey, dpg, ⟨dleaf, dlo, dhi, dr, dl⟩⟩])).length ∧ Tn (V.bs B) W W2) := by
          have el : (pl ++ rowsOf (ds1 ++ [⟨2, ⟨dek, des, deg, dec⟩, dkey, dpg, ⟨dleaf, dlo, dhi, dr, dl⟩⟩])).length = (pl ++ rowsOf ds1).length := by rw [rowsOf_snoc]; simp [hdl0]
          rw [el]
          refine HT.out.step hw0s h1 ?_ (by rw [h3, hc]) (fun a ha => (h5 a (by rw [hc]; exact ha)).trans (hr a ha)) h4
          rw [h2, hv, entsL_snoc]
          rfl
        clear h1 h2 h3 h4 h5 hd hv hc hr
        gi_wp2
        exact HFIN.out _ HE.out
      · by_cases k3 : dk = 3
        · subst k3
          obtain ⟨s, hd, hv, hc, hr⟩ := HT.out.dr
          have hdl0 : dl = [] := hnrx (by decide)
          gi_wp2_with fail
          refine ⟨trivial, ?_⟩
          refine (CallsIn.inRound l (callsIn_wide.2 (dcut_any hd dkey hkn1))).mono ?_
          rintro e W2 ⟨rfl, s', h1, h2, h3, h4, h5⟩
          have HE : Hid (Es w W2 w0.heap.size B PP w3.heap.size w4.heap.size ks (fx0 ks row) V row (entsL pl (ds1 ++ [⟨3, ⟨dek, des, deg, dec⟩, dkey, dpg, ⟨dleaf, dlo, dhi, dr, dl⟩⟩])) (pl ++ rowsOf (ds1 ++ [⟨3, ⟨dek, des, deg, dec⟩, dkey, dpg, ⟨dleaf, dlo, dhi, dr, dl⟩⟩])).length ∧ Tn (V.bs B) W W2) := by
            have el : (pl ++ rowsOf (ds1 ++ [⟨3, ⟨dek, des, deg, dec⟩, dkey, dpg, ⟨dleaf, dlo, dhi, dr, dl⟩⟩])).length = (pl ++ rowsOf ds1).length := by rw [rowsOf_snoc]; simp [hdl0]
            rw [el]
            refine HT.out.step hw0s h1 ?_ (by rw [h3, hc]) (fun a ha => (h5 a (by rw [hc]; exact ha)).trans (hr a ha)) h4
            rw [h2, hv, entsL_snoc]
            rfl
          clear h1 h2 h3 h4 h5 hd hv hc hr
          gi_wp2
          exact HFIN.out _ HE.out
        · by_cases k4 : dk = 4
          · subst k4
            obtain ⟨s, hd, hv, hc, hr⟩ := HT.out.dr
            obtain ⟨tl, htl⟩ := hpart
            have hroom : s.came + dn ≤ (fx0 ks row).R := by
              show s.came + dn ≤ row.length
              rw [hc, htl]
              simp only [List.length_append]
              omega
            gi_wp2_with fail
            refine ⟨trivial, ?_⟩
            refine (CallsIn.inRound l (callsIn_wide.2 (come_any hd dn hroom))).mono ?_
            rintro e W2 ⟨rfl, h1, h4⟩
            have HE : Hid (Es w W2 w0.heap.size B PP w3.heap.size w4.heap.size ks (fx0 ks row) V row (entsL pl (ds1 ++ [⟨4, ⟨dek, des, deg, dec⟩, dkey, dpg, ⟨dleaf, dlo, dhi, dr, dl⟩⟩])) (pl ++ rowsOf (ds1 ++ [⟨4, ⟨dek, des, deg, dec⟩, dkey, dpg, ⟨dleaf, dlo, dhi, dr, dl⟩⟩])).length ∧ Tn (V.bs B) W W2) := by
              have el : (pl ++ rowsOf (ds1 ++ [⟨4, ⟨dek, des, deg, dec⟩, dkey, dpg, ⟨dleaf, dlo, dhi, dr, dl⟩⟩])).length = (pl ++ rowsOf ds1).length + dn := by rw [rowsOf_snoc, ← List.append_assoc, List.length_append]; show _ + dl.length = _; omega
              refine HT.out.step hw0s h1 ?_ (by rw [el]; show s.came + dn = _; rw [hc]) (fun a ha => hr a (by rw [el] at ha; omega)) h4
              rw [comes_view hd.inv dn hroom, hv, entsL_snoc]
              show _ = entsL pl ds1 ++ dl
              congr 1
              apply List.ext_getElem?
              intro j
              by_cases hj : j < dn
              · have hjl : j < dl.length := by omega
                simp only [List.getElem?_map, List.getElem?_range hj, Option.map_some]
                rw [hr _ (by omega), hc, htl, List.getD_eq_getElem?_getD, List.getElem?_append_left (by simp only [List.length_append]; omega), List.getElem?_append_right (by omega), Nat.add_sub_cancel_left, List.getElem?_eq_getElem hjl]
                rfl
              · rw [List.getElem?_eq_none (by simp; omega), List.getElem?_eq_none (by omega)]
            clear h1 h4 hd hv hc hr hroom
            gi_wp2
            exact HFIN.out _ HE.out
          · have hdl0 : dl = [] := hnrx k4
            have HE : Hid (Es w W w0.heap.size B PP w3.heap.size w4.heap.size ks (fx0 ks row) V row (entsL pl (ds1 ++ [⟨dk, ⟨dek, des, deg, dec⟩, dkey, dpg, ⟨dleaf, dlo, dhi, dr, dl⟩⟩])) (pl ++ rowsOf (ds1 ++ [⟨dk, ⟨dek, des, deg, dec⟩, dkey, dpg, ⟨dleaf, dlo, dhi, dr, dl⟩⟩])).length ∧ Tn (V.bs B) W W) := by
              have el : (pl ++ rowsOf (ds1 ++ [⟨dk, ⟨dek, des, deg, dec⟩, dkey, dpg, ⟨dleaf, dlo, dhi, dr, dl⟩⟩])).length = (pl ++ rowsOf ds1).length := by rw [rowsOf_snoc]; simp [hdl0]
              refine ⟨?_, Tn.refl _ _⟩
              rw [el, entsL_snoc]
              have : entS (entsL pl ds1) ⟨dk, ⟨dek, des, deg, dec⟩, dkey, dpg, ⟨dleaf, dlo, dhi, dr, dl⟩⟩ = entsL pl ds1 := by unfold entS; simp [k1, k2, k3, k4]
              rw [this]
              exact HT.out
            clear hdl0 hnrx
            have hF := HFIN.out _ HE.out
            rw [List.length_append] at hF
            have HF : Hid _ := hF
            clear hF
            gi_wp2
            exact HF.out
end Go.Proofs.YthpilennljpamaaGreat

namespace Go.Proofs.YthpilennljpamaaGreat
open Go.RowKit Go.Lib Go.Shelf
set_option linter.unusedVariables false
set_option maxRecDepth 100000

namespace Dl
def ap (acc : Pp × Int) (d : De) : Pp × Int := if acc.2 = 0 then apply acc.1 d else acc
/-- A page by deltas, the oldest one first. -/
def fo (g : Pp) (ds : List De) : Pp × Int := ds.foldl ap (g, 0)

theorem apply_ok {g : Pp} {d : De} (h : (apply g d).2 = 0) : may d = true ∧ d.k ≠ 5 := by
  unfold apply at h
  by_cases hm : may d = true
  · refine ⟨hm, fun h5 => ?_⟩
    rw [if_pos hm] at h
    simp [h5] at h
  · rw [if_neg hm] at h
    simp at h

theorem may_rt {d : De} (h : may d = true) (h4 : d.k ≠ 4) : d.rt.l = [] := by
  unfold may at h
  rw [Bool.and_eq_true] at h
  have h1 := h.1
  unfold same at h1
  simp only [Bool.and_eq_true] at h1
  have h2 := h1.2.2.2.2
  have h3 : (named d).rt.l = [] := by
    unfold named
    simp only [h4, if_false]
    split
    · rfl
    · split
      · rfl
      · split
        · rfl
        · split <;> rfl
  unfold Pg.same at h2
  simp only [Bool.and_eq_true] at h2
  have h6 := h2.2.2.2.2
  rw [h3] at h6
  exact (Pg.eqL_iff _ _).1 h6

theorem hd_put (g : Pp) (e : En) : (hd (Pg.put g e).1, (Pg.put g e).2) = (hd (Pg.put (hd g) e).1, (Pg.put (hd g) e).2) := by
  have : ∀ g : Pp, Pg.put g e = if Ky.inn ⟨g.lo, g.hi⟩ e.key then (⟨g.leaf, g.lo, g.hi, g.r, Pg.putL g.l e⟩, 0) else (Pg.zero, 73) := fun _ => rfl
  by_cases h : Ky.inn ⟨g.lo, g.hi⟩ e.key = true
  · rw [this, this, if_pos h, if_pos (show Ky.inn ⟨(hd g).lo, (hd g).hi⟩ e.key = true from h)]
    rfl
  · rw [this, this, if_neg h, if_neg (show ¬Ky.inn ⟨(hd g).lo, (hd g).hi⟩ e.key = true from h)]
theorem hd_without (g : Pp) (key : ByteArray) : hd (without g key) = hd g := by
  unfold without
  split <;> rfl
theorem hd_apply (g : Pp) (d : De) : (hd (apply g d).1, (apply g d).2) = (hd (apply (hd g) d).1, (apply (hd g) d).2) := by
  by_cases hm : may d = true
  · obtain ⟨k, e, key, pg, rt⟩ := d
    rcases may_kind hm with h1 | h1 | h1 | h1 | h1
    · simp only at h1
      subst h1
      rw [apply_1 hm, apply_1 hm]
      exact hd_put g e
    · simp only at h1
      subst h1
      rw [apply_2 hm, apply_2 hm]
      by_cases h : Ky.inn ⟨g.lo, g.hi⟩ key = true
      · rw [if_pos h, if_pos (show Ky.inn ⟨(hd g).lo, (hd g).hi⟩ key = true from h)]
        simp only [hd_without]
        rfl
      · rw [if_neg h, if_neg (show ¬Ky.inn ⟨(hd g).lo, (hd g).hi⟩ key = true from h)]
    · simp only at h1
      subst h1
      rw [apply_3 hm, apply_3 hm]
      by_cases h : (Ky.lt g.lo key && Ky.inn ⟨g.lo, g.hi⟩ key) = true
      · rw [if_pos h, if_pos (show (Ky.lt (hd g).lo key && Ky.inn ⟨(hd g).lo, (hd g).hi⟩ key) = true from h)]
        rfl
      · rw [if_neg h, if_neg (show ¬(Ky.lt (hd g).lo key && Ky.inn ⟨(hd g).lo, (hd g).hi⟩ key) = true from h)]
    · simp only at h1
      subst h1
      rw [apply_4 hm, apply_4 hm]
      unfold Pg.merge
      by_cases h : Pg.joins g rt = true
      · rw [if_pos h, if_pos (show Pg.joins (hd g) rt = true from h)]
        rfl
      · rw [if_neg h, if_neg (show ¬Pg.joins (hd g) rt = true from h)]
    · simp only at h1
      subst h1
      rw [apply_5 hm, apply_5 hm]
  · rw [apply_not (by simpa using hm), apply_not (by simpa using hm)]

theorem outl_fo (g : Pp) (ds : List De) : outl g ds = (hd (fo g ds).1, (fo g ds).2) := by
  have : ∀ (a b : Pp × Int), a = (hd b.1, b.2) → ds.foldl stp a = (hd (ds.foldl ap b).1, (ds.foldl ap b).2) := by
    induction ds with
    | nil => exact fun a b h => h
    | cons d r ih =>
      intro a b h
      rw [List.foldl_cons, List.foldl_cons]
      refine ih _ _ ?_
      rw [h]
      unfold stp ap
      by_cases h0 : b.2 = 0
      · rw [if_pos h0, if_pos h0]
        exact (hd_apply b.1 d).symm
      · rw [if_neg h0, if_neg h0]
  exact this _ _ rfl

theorem fo_snoc (g : Pp) (ds : List De) (d : De) : fo g (ds ++ [d]) = ap (fo g ds) d := by unfold fo; rw [List.foldl_append]; rfl

theorem fo_zero (g : Pp) (ds : List De) (h : (fo g ds).2 ≠ 0) : (fo g ds).1 = Pg.zero := by
  have : ∀ (a : Pp × Int), (a.2 ≠ 0 → a.1 = Pg.zero) → ((ds.foldl ap a).2 ≠ 0 → (ds.foldl ap a).1 = Pg.zero) := by
    clear h
    induction ds with
    | nil => exact fun a h => h
    | cons d r ih =>
      intro a h0 h1
      rw [List.foldl_cons] at h1 ⊢
      refine ih _ ?_ h1
      unfold ap
      split
      · exact apply_zero _ _
      · exact h0
  exact this _ (by simp) h

theorem apply_l {g : Pp} {d : De} (h : (apply g d).2 = 0) : (apply g d).1.l = entS g.l d := by
  obtain ⟨hm, h5⟩ := apply_ok h
  obtain ⟨k, e, key, pg, rt⟩ := d
  rcases may_kind hm with h1 | h1 | h1 | h1 | h1
  · simp only at h1
    subst h1
    rw [apply_1 hm] at h ⊢
    unfold Pg.put at h ⊢
    split at h
    · rename_i hi
      rw [if_pos hi]; rfl
    · simp at h
  · simp only at h1
    subst h1
    rw [apply_2 hm] at h ⊢
    split at h
    · rename_i hi
      rw [if_pos hi]
      show (without g key).l = Dr.without g.l key
      unfold without Dr.without
      split <;> rfl
    · simp at h
  · simp only at h1
    subst h1
    rw [apply_3 hm] at h ⊢
    split at h
    · rename_i hi
      rw [if_pos hi]; rfl
    · simp at h
  · simp only at h1
    subst h1
    rw [apply_4 hm] at h ⊢
    unfold Pg.merge at h ⊢
    split at h
    · rename_i hi
      rw [if_pos hi]; rfl
    · simp at h
  · exact absurd h1 h5

theorem fo_ok (g : Pp) (ds : List De) (h : (fo g ds).2 = 0) : (fo g ds).1.l = entsL g.l ds ∧ ∀ d ∈ ds, may d = true ∧ d.k ≠ 5 := by
  obtain ⟨n, hn⟩ : ∃ n, ds.length = n := ⟨_, rfl⟩
  induction n generalizing ds with
  | zero =>
    rw [List.eq_nil_of_length_eq_zero hn]
    exact ⟨rfl, by simp⟩
  | succ n ih' =>
    obtain ⟨r, d, rfl⟩ : ∃ r d, ds = r ++ [d] := ⟨ds.dropLast, ds.getLast (by intro h; simp [h] at hn), (List.dropLast_concat_getLast _).symm⟩
    have ih := fun h => ih' r h (by simpa using hn)
    rw [fo_snoc] at h ⊢
    rw [entsL_snoc]
    unfold ap at h ⊢
    by_cases h0 : (fo g r).2 = 0
    · rw [if_pos h0] at h ⊢
      obtain ⟨h1, h2⟩ := ih h0
      refine ⟨by rw [apply_l h, h1], fun x hx => ?_⟩
      rcases List.mem_append.1 hx with hx | hx
      · exact h2 x hx
      · simp at hx
        subst hx
        exact apply_ok h
    · rw [if_neg h0] at h
      exact absurd h h0
end Dl
end Go.Proofs.YthpilennljpamaaGreat

namespace Go.Proofs.YthpilennljpamaaGreat
open Go.RowKit Go.Lib Go.Shelf
set_option linter.unusedVariables false
set_option maxRecDepth 100000

/-- What bounds the deltas that are folded. -/
structure Fit (pl : List En) (ds : List De) : Prop where
  row : (pl ++ rowsOf ds).length ≤ 3518437208782
  texts : (allTexts pl ds).length ≤ 7036874417766
  ents : (entsL pl ds).length ≤ 3518437208783

set_option maxHeartbeats 4000000 in
theorem folded_any (pf : Bool) (plo phi : ByteArray) (pr : Int) (pp : Option Addr) (pn pc : Nat) (pl : List En) (p : Option Addr) (len cap : Nat) (L : List Dm) (w : World) (hlen : pl.length = pn) (hx : Ens w pp pl) (hp : pp = none → pn = 0) (hL : L.length = len) (hll : len ≤ 4398046511104) (hD : Des w p L) (hF : (Dl.fo ⟨pf, plo, phi, pr, pl⟩ (L.map (·.d)).reverse).2 = 0 → Fit pl (L.map (·.d)).reverse) :
    Calls Tryz.prog 30 #[pgv pf plo phi pr pp pn pc, .slice p len cap] w fun e w' => Done w (Dl.fo ⟨pf, plo, phi, pr, pl⟩ (L.map (·.d)).reverse) e w' := by
  have hO := fun (W : World) (h : Below w.heap.size w W) => outline_any ⟨pf, plo, phi, pr, pl⟩ pp pn pc p len cap L W hL hll (hD.below h (Nat.le_refl _))
  rw [Dl.outl_fo] at hO
  have hE := fun (h0 : (Dl.fo ⟨pf, plo, phi, pr, pl⟩ (L.map (·.d)).reverse).2 = 0) (W : World) (h : Below w.heap.size w W) => entries_any pf plo phi pr pp pn pc pl p len cap L W hlen (hx.below h (Nat.le_refl _)) hp hL (hD.below h (Nat.le_refl _)) (hF h0).row (hF h0).texts (hF h0).ents (fun d hd => Dl.may_rt ((Dl.fo_ok _ _ h0).2 d hd).1)
  have hel := fun h0 => (Dl.fo_ok ⟨pf, plo, phi, pr, pl⟩ (L.map (·.d)).reverse h0).1
  revert hO hE hel hF
  generalize Dl.fo ⟨pf, plo, phi, pr, pl⟩ (L.map (·.d)).reverse = out
  generalize entsL pl (L.map (·.d)).reverse = EL
  intro hF hO hE hel
  have HO : Hid _ := hO
  have HE : Hid (out.2 = 0 → ∀ W, Below w.heap.size w W → Calls Tryz.prog 54 #[pgv pf plo phi pr pp pn pc, .slice p len cap] W fun e w' => ∃ v, e = .returned v ∧ OwnE w' W.heap.size v EL ∧ Below W.heap.size W w') := hE
  have HEL : Hid (out.2 = 0 → out.1.l = EL) := hel
  clear hO hE hel hx hD hF hL hlen
  obtain ⟨w0, hw0⟩ : ∃ w0, (w.alloc (.cells #[.bool pf, .string plo, .string phi, .int .i64 pr, .slice pp pn pc] 24)).alloc (.cells #[.bool false, .string ⟨#[]⟩, .string ⟨#[]⟩, .int .i64 0, .slice none 0 0] 24) = w0 := ⟨_, rfl⟩
  have HB0 : Hid (Below w.heap.size w w0) := by rw [← hw0]; exact ((Below.refl _ _).alloc (Nat.le_refl _) _).alloc (by simp) _
  have HK0 : Hid (Bk w0 w.heap.size 24 #[.bool pf, .string plo, .string phi, .int .i64 pr, .slice pp pn pc]) := by rw [← hw0]; exact (Bk.new _ _ _).alloc _
  have HR0 : Hid (Bk w0 (w.heap.size + 1) 24 #[.bool false, .string ⟨#[]⟩, .string ⟨#[]⟩, .int .i64 0, .slice none 0 0]) := by rw [← hw0]; exact Bk.new1 _ _ _ _
  have HS0 : Hid (w.heap.size + 1 < w0.heap.size) := HR0.out.lt
  have a0 : w0.cell? ⟨w.heap.size, 0, none⟩ = some (.bool pf) := HK0.out.cell 0
  have a1 : w0.cell? ⟨w.heap.size, 1, none⟩ = some (.string plo) := HK0.out.cell 1
  have a2 : w0.cell? ⟨w.heap.size, 2, none⟩ = some (.string phi) := HK0.out.cell 2
  have a3 : w0.cell? ⟨w.heap.size, 3, none⟩ = some (.int .i64 pr) := HK0.out.cell 3
  have a4 : w0.cell? ⟨w.heap.size, 4, none⟩ = some (.slice pp pn pc) := HK0.out.cell 4
  go_enter Tryz.func30, Tryz.ntmps30
  go_wp2_with fail
  clear hw0
  refine (HO.out w0 HB0.out).mono ?_
  rintro e w1 ⟨hdone, hb1⟩
  clear a0 a1 a2 a3 a4
  have HB1 : Hid (Below w.heap.size w w1) := HB0.out.trans (hb1.mono HB0.out.size)
  have HK1 : Hid (Bk w1 w.heap.size 24 #[.bool pf, .string plo, .string phi, .int .i64 pr, .slice pp pn pc]) := HK0.out.below hb1 HK0.out.lt
  have HR1 : Hid (Bk w1 (w.heap.size + 1) 24 #[.bool false, .string ⟨#[]⟩, .string ⟨#[]⟩, .int .i64 0, .slice none 0 0]) := HR0.out.below hb1 HR0.out.lt
  clear hb1
  rcases hdone with ⟨hk0, rfl⟩ | ⟨hk0, rfl⟩
  · obtain ⟨⟨Gf, Glo, Ghi, Gr, Gl⟩, kk⟩ := out
    simp only at hk0
    subst hk0
    have hGl : Gl = EL := HEL.out rfl
    subst hGl
    have HE1 := HE.out rfl
    have HE2 : Hid _ := HE1
    clear HE1
    simp only [Dl.hd]
    obtain ⟨w2, hw2⟩ : ∃ w2, w1.alloc (.cells #[.bool Gf, .string Glo, .string Ghi, .int .i64 Gr, .slice none 0 0] 24) = w2 := ⟨_, rfl⟩
    have HB2 : Hid (Below w.heap.size w w2) := by rw [← hw2]; exact HB1.out.alloc HB1.out.size _
    have HK2 : Hid (Bk w2 w.heap.size 24 #[.bool pf, .string plo, .string phi, .int .i64 pr, .slice pp pn pc]) := by rw [← hw2]; exact HK1.out.alloc _
    have HR2 : Hid (Bk w2 (w.heap.size + 1) 24 #[.bool false, .string ⟨#[]⟩, .string ⟨#[]⟩, .int .i64 0, .slice none 0 0]) := by rw [← hw2]; exact HR1.out.alloc _
    have HP2 : Hid (Bk w2 w1.heap.size 24 #[.bool Gf, .string Glo, .string Ghi, .int .i64 Gr, .slice none 0 0]) := by rw [← hw2]; exact Bk.new _ _ _
    have HPP : Hid (w.heap.size + 1 < w1.heap.size) := HR1.out.lt
    have a0 : (w1.alloc (.cells #[.bool Gf, .string Glo, .string Ghi, .int .i64 Gr, .slice none 0 0] 24)).cell? ⟨w.heap.size, 0, none⟩ = some (.bool pf) := (HK1.out.alloc _).cell 0
    have a1 : (w1.alloc (.cells #[.bool Gf, .string Glo, .string Ghi, .int .i64 Gr, .slice none 0 0] 24)).cell? ⟨w.heap.size, 1, none⟩ = some (.string plo) := (HK1.out.alloc _).cell 1
    have a2 : (w1.alloc (.cells #[.bool Gf, .string Glo, .string Ghi, .int .i64 Gr, .slice none 0 0] 24)).cell? ⟨w.heap.size, 2, none⟩ = some (.string phi) := (HK1.out.alloc _).cell 2
    have a3 : (w1.alloc (.cells #[.bool Gf, .string Glo, .string Ghi, .int .i64 Gr, .slice none 0 0] 24)).cell? ⟨w.heap.size, 3, none⟩ = some (.int .i64 pr) := (HK1.out.alloc _).cell 3
    have a4 : (w1.alloc (.cells #[.bool Gf, .string Glo, .string Ghi, .int .i64 Gr, .slice none 0 0] 24)).cell? ⟨w.heap.size, 4, none⟩ = some (.slice pp pn pc) := (HK1.out.alloc _).cell 4
    have hne1 : w.heap.size ≠ w1.heap.size := by have := HPP.out; omega
    replace hw2 := hw2.symm
    go_wp2_with fail
    rw [← hw2]
    generalize w1.heap.size = P at *
    clear hw2
    refine (HE2.out w2 HB2.out).mono ?_
    rintro e w3 ⟨v3, rfl, ho3, hb3⟩
    clear a0 a1 a2 a3 a4
    obtain ⟨q, c, rfl, -⟩ := ho3.ens
    have HO3 : Hid (OwnE w3 w2.heap.size (.slice q Gl.length c) Gl) := ho3
    have HB3 : Hid (Below w.heap.size w w3) := HB2.out.trans (hb3.mono HB2.out.size)
    have HR3 : Hid (Bk w3 (w.heap.size + 1) 24 #[.bool false, .string ⟨#[]⟩, .string ⟨#[]⟩, .int .i64 0, .slice none 0 0]) := HR2.out.below hb3 HR2.out.lt
    have HP3 : Hid (Bk w3 P 24 #[.bool Gf, .string Glo, .string Ghi, .int .i64 Gr, .slice none 0 0]) := HP2.out.below hb3 HP2.out.lt
    have HPS : Hid (P < w2.heap.size) := HP2.out.lt
    clear ho3 hb3
    obtain ⟨Gn, HGn⟩ : ∃ Gn, Hid (Gl.length = Gn) := ⟨_, rfl⟩
    rw [HGn.out] at HO3 ⊢
    have p4 : w3.cell? ⟨P, 4, none⟩ = some (.slice none 0 0) := HP3.out.cell 4
    have pf4 : w3.frozen? ⟨P, 4, none⟩ = false := HP3.out.frozen 4
    have HP4 : Hid (Bk (w3.setCell ⟨P, 4, none⟩ (.slice q Gn c)) P 24 #[.bool Gf, .string Glo, .string Ghi, .int .i64 Gr, .slice q Gn c]) := HP3.out.set 4 _
    have hne : w.heap.size + 1 ≠ P := by have := HPP.out; omega
    have HT4 : Hid (Tn [P] w3 (w3.setCell ⟨P, 4, none⟩ (.slice q Gn c))) := (Tn.refl _ _).setCell (p := ⟨P, 4, none⟩) (.inl (by simp)) _
    have HR4 : Hid (Bk (w3.setCell ⟨P, 4, none⟩ (.slice q Gn c)) (w.heap.size + 1) 24 #[.bool false, .string ⟨#[]⟩, .string ⟨#[]⟩, .int .i64 0, .slice none 0 0]) := HR3.out.tn HT4.out (by simp; exact hne)
    generalize hw4 : w3.setCell ⟨P, 4, none⟩ (.slice q Gn c) = w4 at HP4 HR4 HT4
    have b0 : w4.cell? ⟨P, 0, none⟩ = some (.bool Gf) := HP4.out.cell 0
    have b1 : w4.cell? ⟨P, 1, none⟩ = some (.string Glo) := HP4.out.cell 1
    have b2 : w4.cell? ⟨P, 2, none⟩ = some (.string Ghi) := HP4.out.cell 2
    have b3 : w4.cell? ⟨P, 3, none⟩ = some (.int .i64 Gr) := HP4.out.cell 3
    have b4 : w4.cell? ⟨P, 4, none⟩ = some (.slice q Gn c) := HP4.out.cell 4
    have c0 : w4.cell? ⟨w.heap.size + 1, 0, none⟩ = some (.bool false) := HR4.out.cell 0
    have cf0 : w4.frozen? ⟨w.heap.size + 1, 0, none⟩ = false := HR4.out.frozen 0
    have c1 : w4.cell? ⟨w.heap.size + 1, 1, none⟩ = some (.string ⟨#[]⟩) := HR4.out.cell 1
    have cf1 : w4.frozen? ⟨w.heap.size + 1, 1, none⟩ = false := HR4.out.frozen 1
    have c2 : w4.cell? ⟨w.heap.size + 1, 2, none⟩ = some (.string ⟨#[]⟩) := HR4.out.cell 2
    have cf2 : w4.frozen? ⟨w.heap.size + 1, 2, none⟩ = false := HR4.out.frozen 2
    have c3 : w4.cell? ⟨w.heap.size + 1, 3, none⟩ = some (.int .i64 0) := HR4.out.cell 3
    have cf3 : w4.frozen? ⟨w.heap.size + 1, 3, none⟩ = false := HR4.out.frozen 3
    have c4 : w4.cell? ⟨w.heap.size + 1, 4, none⟩ = some (.slice none 0 0) := HR4.out.cell 4
    have cf4 : w4.frozen? ⟨w.heap.size + 1, 4, none⟩ = false := HR4.out.frozen 4
    go_wp2
    clear b0 b1 b2 b3 b4 c0 cf0 c1 cf1 c2 cf2 c3 cf3 c4 cf4 p4 pf4
    have k1 := HR4.out.five (.bool Gf) (.string Glo) (.string Ghi) (.int .i64 Gr) (.slice q Gn c)
    have ht : Tn [w.heap.size + 1] w4 _ := (Tn.refl _ w4).five (R := w.heap.size + 1) (.inl (by simp)) (.bool Gf) (.string Glo) (.string Ghi) (.int .i64 Gr) (.slice q Gn c)
    refine bodyPost_ret (results_one (T' := 24) (cs := [.bool Gf, .string Glo, .string Ghi, .int .i64 Gr, .slice q Gn c]) rfl rfl pg_agg pg_size rfl k1) rfl ?_
    have h1 := HPP.out
    have h2 := HPS.out
    have h3 := HB3.out.size
    have ho4 := HO3.out.tn HT4.out (by simp; omega)
    have ho5 := ho4.tn ht (by simp; omega)
    have hb4 := HB3.out.trans (HT4.out.below h3 (by simp; omega))
    exact ⟨.inl ⟨rfl, _, rfl, PgAt.own HGn.out (ho5.mono HB2.out.size)⟩, hb4.trans (ht.below hb4.size (by simp))⟩
  · refine ⟨rfl, ?_⟩
    exact ⟨.inr ⟨hk0, rfl⟩, HB1.out⟩

end Go.Proofs.YthpilennljpamaaGreat

namespace Go.Proofs.YthpilennljpamaaGreat
open Go.RowKit Go.Lib Go.Shelf
set_option linter.unusedVariables false
set_option maxRecDepth 100000

set_option maxHeartbeats 2000000 in
theorem fold1_any (pf : Bool) (plo phi : ByteArray) (pr : Int) (pp : Option Addr) (pn pc : Nat) (pl : List En) (p : Option Addr) (len cap : Nat) (L : List Dm) (B C : Nat) (w : World) (hB : Bk w B 24 (pgc pf plo phi pr pp pn pc)) (hC : Bk w C 25 #[.slice p len cap])
    (hlen : pl.length = pn) (hx : Ens w pp pl) (hp : pp = none → pn = 0) (hL : L.length = len) (hll : len ≤ 4398046511104) (hD : Des w p L) (hF : (Dl.fo ⟨pf, plo, phi, pr, pl⟩ (L.map (·.d)).reverse).2 = 0 → Fit pl (L.map (·.d)).reverse) :
    Calls Tryz.prog 29 #[.pointer (some ⟨B, 0, none⟩), .pointer (some ⟨C, 0, none⟩)] w fun e w' => Done w (Dl.fo ⟨pf, plo, phi, pr, pl⟩ (L.map (·.d)).reverse) e w' := by
  have hq := fun (W : World) (h : Below w.heap.size w W) => folded_any pf plo phi pr pp pn pc pl p len cap L W hlen (hx.below h (Nat.le_refl _)) hp hL hll (hD.below h (Nat.le_refl _)) hF
  revert hq hF
  generalize (Dl.fo ⟨pf, plo, phi, pr, pl⟩ (L.map (·.d)).reverse) = out
  intro hF hq
  have HQ : Hid _ := hq
  clear hq hlen hx hL hD hF
  obtain ⟨w0, hw0⟩ : ∃ w0, w.alloc (.cells #[.bool false, .string ⟨#[]⟩, .string ⟨#[]⟩, .int .i64 0, .slice none 0 0] 24) = w0 := ⟨_, rfl⟩
  have HB0 : Hid (Below w.heap.size w w0) := by rw [← hw0]; exact (Below.refl _ _).alloc (Nat.le_refl _) _
  have HK0 : Hid (Bk w0 B 24 #[.bool pf, .string plo, .string phi, .int .i64 pr, .slice pp pn pc]) := by rw [← hw0]; exact hB.alloc _
  have HD0 : Hid (Bk w0 C 25 #[.slice p len cap]) := by rw [← hw0]; exact hC.alloc _
  have HR0 : Hid (Bk w0 w.heap.size 24 #[.bool false, .string ⟨#[]⟩, .string ⟨#[]⟩, .int .i64 0, .slice none 0 0]) := by rw [← hw0]; exact Bk.new _ _ _
  have HS0 : Hid (w.heap.size < w0.heap.size) := HR0.out.lt
  clear hB hC
  have a0 : w0.cell? ⟨B, 0, none⟩ = some (.bool pf) := HK0.out.cell 0
  have a1 : w0.cell? ⟨B, 1, none⟩ = some (.string plo) := HK0.out.cell 1
  have a2 : w0.cell? ⟨B, 2, none⟩ = some (.string phi) := HK0.out.cell 2
  have a3 : w0.cell? ⟨B, 3, none⟩ = some (.int .i64 pr) := HK0.out.cell 3
  have a4 : w0.cell? ⟨B, 4, none⟩ = some (.slice pp pn pc) := HK0.out.cell 4
  have x0 : w0.cell? ⟨C, 0, none⟩ = some (.slice p len cap) := HD0.out.cell 0
  go_enter Tryz.func29, Tryz.ntmps29
  go_wp2_with fail
  clear hw0
  refine (HQ.out _ HB0.out).mono ?_
  rintro e w1 ⟨hdone, hb1⟩
  clear a0 a1 a2 a3 a4
  clear x0
  have HB1 : Hid (Below w.heap.size w w1) := HB0.out.trans (hb1.mono HB0.out.size)
  have HR1 : Hid (Bk w1 w.heap.size 24 #[.bool false, .string ⟨#[]⟩, .string ⟨#[]⟩, .int .i64 0, .slice none 0 0]) := HR0.out.below hb1 HR0.out.lt
  clear hb1
  rcases hdone with ⟨hk0, v3, rfl, hg3⟩ | ⟨hk0, rfl⟩
  · obtain ⟨⟨Gf, Glo, Ghi, Gr, Gl⟩, kk⟩ := out
    simp only at hk0 hg3
    subst hk0
    obtain ⟨Gp, Gc, rfl, hg4⟩ := hg3.pv
    simp only at hg4 ⊢
    obtain ⟨Gn, hGn⟩ : ∃ Gn, Gl.length = Gn := ⟨_, rfl⟩
    rw [hGn] at hg4 ⊢
    have HG3 : Hid (PgAt w1 w0.heap.size (pgv Gf Glo Ghi Gr Gp Gn Gc) ⟨Gf, Glo, Ghi, Gr, Gl⟩) := hg4
    clear hg3 hg4 hGn
    have b0 : w1.cell? ⟨w.heap.size, 0, none⟩ = some (.bool false) := HR1.out.cell 0
    have bf0 : w1.frozen? ⟨w.heap.size, 0, none⟩ = false := HR1.out.frozen 0
    have b1 : w1.cell? ⟨w.heap.size, 1, none⟩ = some (.string ⟨#[]⟩) := HR1.out.cell 1
    have bf1 : w1.frozen? ⟨w.heap.size, 1, none⟩ = false := HR1.out.frozen 1
    have b2 : w1.cell? ⟨w.heap.size, 2, none⟩ = some (.string ⟨#[]⟩) := HR1.out.cell 2
    have bf2 : w1.frozen? ⟨w.heap.size, 2, none⟩ = false := HR1.out.frozen 2
    have b3 : w1.cell? ⟨w.heap.size, 3, none⟩ = some (.int .i64 0) := HR1.out.cell 3
    have bf3 : w1.frozen? ⟨w.heap.size, 3, none⟩ = false := HR1.out.frozen 3
    have b4 : w1.cell? ⟨w.heap.size, 4, none⟩ = some (.slice none 0 0) := HR1.out.cell 4
    have bf4 : w1.frozen? ⟨w.heap.size, 4, none⟩ = false := HR1.out.frozen 4
    go_wp2
    clear b0 bf0 b1 bf1 b2 bf2 b3 bf3 b4 bf4
    have k1 := HR1.out.five (.bool Gf) (.string Glo) (.string Ghi) (.int .i64 Gr) (.slice Gp Gn Gc)
    have ht : Tn [w.heap.size] w1 _ := (Tn.refl _ w1).five (R := w.heap.size) (.inl (by simp)) (.bool Gf) (.string Glo) (.string Ghi) (.int .i64 Gr) (.slice Gp Gn Gc)
    refine bodyPost_ret (results_one (T' := 24) (cs := [.bool Gf, .string Glo, .string Ghi, .int .i64 Gr, .slice Gp Gn Gc]) rfl rfl pg_agg pg_size rfl k1) rfl ?_
    exact ⟨.inl ⟨rfl, _, rfl, (HG3.out.tn ht (by have := HS0.out; simp; omega)).mono HB0.out.size⟩, HB1.out.trans (ht.below HB1.out.size (by simp))⟩
  · refine ⟨rfl, ?_⟩
    exact ⟨.inr ⟨hk0, rfl⟩, HB1.out⟩

set_option maxHeartbeats 2000000 in
theorem fold_any (pf : Bool) (plo phi : ByteArray) (pr : Int) (pp : Option Addr) (pn pc : Nat) (pl : List En) (p : Option Addr) (len cap : Nat) (L : List Dm) (w : World) (hlen : pl.length = pn) (hx : Ens w pp pl) (hp : pp = none → pn = 0) (hL : L.length = len) (hll : len ≤ 4398046511104) (hD : Des w p L) (hF : (Dl.fo ⟨pf, plo, phi, pr, pl⟩ (L.map (·.d)).reverse).2 = 0 → Fit pl (L.map (·.d)).reverse) :
    Calls Tryz.prog 11 #[pgv pf plo phi pr pp pn pc, .slice p len cap] w fun e w' => ∃ v, e = .returned (.tuple #[v, .int .i64 (Dl.fo ⟨pf, plo, phi, pr, pl⟩ (L.map (·.d)).reverse).2]) ∧ PgAt w' w.heap.size v (Dl.fo ⟨pf, plo, phi, pr, pl⟩ (L.map (·.d)).reverse).1 ∧ Below w.heap.size w w' := by
  have hmf : ∀ (fn : Fn) (first cap : Array Value) (w : World), (Instr.makeFunc fn first cap).run Tryz.prog w = .ok (.func fn first cap) w := fun _ _ _ _ => rfl
  have eg : ∀ args w, (callFunc 29 args).run Tryz.prog w = .ok (.enter 29 args) w := enters_of Tryz.func29 (by kernel_rfl) rfl
  obtain ⟨w0, hw0⟩ : ∃ w0, ((w.alloc (.cells (pgc pf plo phi pr pp pn pc) 24)).alloc (.cells #[.slice p len cap] 25)).alloc (.cells #[.bool false, .string ⟨#[]⟩, .string ⟨#[]⟩, .int .i64 0, .slice none 0 0] 24) = w0 := ⟨_, rfl⟩
  have HB0 : Hid (Below w.heap.size w w0) := by rw [← hw0]; exact (((Below.refl _ _).alloc (Nat.le_refl _) _).alloc (by simp) _).alloc (by simp; omega) _
  have HR0 : Hid (Bk w0 (w.heap.size + 1 + 1) 24 #[.bool false, .string ⟨#[]⟩, .string ⟨#[]⟩, .int .i64 0, .slice none 0 0]) := by rw [← hw0]; exact Bk.new2 _ _ _ _ _
  have HS0 : Hid (w.heap.size + 1 + 1 < w0.heap.size) := HR0.out.lt
  have hk0 : Bk w0 w.heap.size 24 (pgc pf plo phi pr pp pn pc) := by rw [← hw0]; exact ((Bk.new _ _ _).alloc _).alloc _
  have hd0 : Bk w0 (w.heap.size + 1) 25 #[.slice p len cap] := by rw [← hw0]; exact (Bk.new1 _ _ _ _).alloc _
  have hbb : Below w.heap.size w ((w0.alloc (.cells zc 24)).alloc (.cells #[.int .i64 0] 34)) := (HB0.out.alloc HB0.out.size _).alloc (by have := HB0.out.size; simp; omega) _
  have hq := fold1_any pf plo phi pr pp pn pc pl p len cap L w.heap.size (w.heap.size + 1) ((w0.alloc (.cells zc 24)).alloc (.cells #[.int .i64 0] 34)) ((hk0.alloc _).alloc _) ((hd0.alloc _).alloc _) hlen (hx.below hbb (Nat.le_refl _)) hp hL hll (hD.below hbb (Nat.le_refl _)) hF
  have hz := Dl.fo_zero ⟨pf, plo, phi, pr, pl⟩ (L.map (·.d)).reverse
  have hcc : Calls Tryz.prog 28 #[.func (.func 29) #[] #[.pointer (some ⟨w.heap.size, 0, none⟩), .pointer (some ⟨w.heap.size + 1, 0, none⟩)]] w0 fun e w' => ∃ v, e = .returned (.tuple #[v, .int .i64 (Dl.fo ⟨pf, plo, phi, pr, pl⟩ (L.map (·.d)).reverse).2]) ∧ PgAt w' w0.heap.size v (Dl.fo ⟨pf, plo, phi, pr, pl⟩ (L.map (·.d)).reverse).1 ∧ Below w0.heap.size w0 w' := by
    by_cases h0 : (Dl.fo ⟨pf, plo, phi, pr, pl⟩ (L.map (·.d)).reverse).2 = 0
    · rw [h0]
      refine caughtP_ok _ _ eg (Dl.fo ⟨pf, plo, phi, pr, pl⟩ (L.map (·.d)).reverse).1 w0 (hq.mono ?_)
      rintro e w' ⟨hdone, hb⟩
      rcases hdone with ⟨-, v, rfl, hg⟩ | ⟨h1, -⟩
      · exact ⟨v, rfl, by simpa using hg, by simpa using hb⟩
      · exact absurd h0 h1
    · rw [hz h0]
      refine (caughtP_err _ _ eg (Dl.fo ⟨pf, plo, phi, pr, pl⟩ (L.map (·.d)).reverse).2 w0 (hq.mono ?_)).mono ?_
      · rintro e w' ⟨hdone, hb⟩
        rcases hdone with ⟨h1, -⟩ | ⟨-, rfl⟩
        · exact absurd h1 h0
        · exact ⟨rfl, by simpa using hb⟩
      · rintro e w' ⟨rfl, hb⟩
        exact ⟨_, rfl, PgAt.zero _ _, hb⟩
  have HQ : Hid _ := hcc
  obtain ⟨⟨⟨Gf, Glo, Ghi, Gr, Gl⟩, kk⟩, HO⟩ : ∃ out : Pp × Int, Hid (Dl.fo ⟨pf, plo, phi, pr, pl⟩ (L.map (·.d)).reverse = out) := ⟨_, rfl⟩
  rw [HO.out] at HQ
  rw [HO.out]
  clear hq hz hcc hlen hx hL hD hF HO hk0 hd0 hbb
  go_enter Tryz.func11, Tryz.ntmps11
  go_wp2_with fail
  clear hw0
  refine Calls.mono HQ.out ?_
  rintro e w1 ⟨v, rfl, hg3, hb1⟩
  obtain ⟨Gp, Gc, rfl, hg4⟩ := hg3.pv
  simp only at hg4 ⊢
  obtain ⟨Gn, hGn⟩ : ∃ Gn, Gl.length = Gn := ⟨_, rfl⟩
  rw [hGn] at hg4 ⊢
  have HG3 : Hid (PgAt w1 w0.heap.size (pgv Gf Glo Ghi Gr Gp Gn Gc) ⟨Gf, Glo, Ghi, Gr, Gl⟩) := hg4
  have HB1 : Hid (Below w.heap.size w w1) := HB0.out.trans (hb1.mono HB0.out.size)
  have HR1 : Hid (Bk w1 (w.heap.size + 1 + 1) 24 #[.bool false, .string ⟨#[]⟩, .string ⟨#[]⟩, .int .i64 0, .slice none 0 0]) := HR0.out.below hb1 HR0.out.lt
  clear hg3 hg4 hb1 hGn
  have b0 : w1.cell? ⟨w.heap.size + 1 + 1, 0, none⟩ = some (.bool false) := HR1.out.cell 0
  have bf0 : w1.frozen? ⟨w.heap.size + 1 + 1, 0, none⟩ = false := HR1.out.frozen 0
  have b1 : w1.cell? ⟨w.heap.size + 1 + 1, 1, none⟩ = some (.string ⟨#[]⟩) := HR1.out.cell 1
  have bf1 : w1.frozen? ⟨w.heap.size + 1 + 1, 1, none⟩ = false := HR1.out.frozen 1
  have b2 : w1.cell? ⟨w.heap.size + 1 + 1, 2, none⟩ = some (.string ⟨#[]⟩) := HR1.out.cell 2
  have bf2 : w1.frozen? ⟨w.heap.size + 1 + 1, 2, none⟩ = false := HR1.out.frozen 2
  have b3 : w1.cell? ⟨w.heap.size + 1 + 1, 3, none⟩ = some (.int .i64 0) := HR1.out.cell 3
  have bf3 : w1.frozen? ⟨w.heap.size + 1 + 1, 3, none⟩ = false := HR1.out.frozen 3
  have b4 : w1.cell? ⟨w.heap.size + 1 + 1, 4, none⟩ = some (.slice none 0 0) := HR1.out.cell 4
  have bf4 : w1.frozen? ⟨w.heap.size + 1 + 1, 4, none⟩ = false := HR1.out.frozen 4
  go_wp2
  clear b0 bf0 b1 bf1 b2 bf2 b3 bf3 b4 bf4
  have k1 := HR1.out.five (.bool Gf) (.string Glo) (.string Ghi) (.int .i64 Gr) (.slice Gp Gn Gc)
  have ht : Tn [w.heap.size + 1 + 1] w1 _ := (Tn.refl _ w1).five (R := w.heap.size + 1 + 1) (.inl (by simp)) (.bool Gf) (.string Glo) (.string Ghi) (.int .i64 Gr) (.slice Gp Gn Gc)
  refine bodyPost_ret (results_two (T' := 24) (cs := [.bool Gf, .string Glo, .string Ghi, .int .i64 Gr, .slice Gp Gn Gc]) rfl rfl pg_agg pg_size rfl k1) rfl ?_
  exact ⟨_, rfl, (HG3.out.tn ht (by have := HS0.out; simp; omega)).mono HB0.out.size, HB1.out.trans (ht.below HB1.out.size (by simp; omega))⟩

end Go.Proofs.YthpilennljpamaaGreat

namespace Go.Proofs.YthpilennljpamaaGreat
open Go.RowKit Go.Sort
set_option linter.unusedVariables false
set_option maxRecDepth 100000

namespace Pg
theorem good_of_fits {leaf : Bool} {r : Rg} {l : List En} (h : fits leaf r l = true) {j : Nat} (hj : j < l.length) : good leaf r l j = true := by
  unfold fits at h
  rw [List.all_eq_true] at h
  exact h j (List.mem_range.2 hj)

/-- The entries of a page that may be rise. -/
def Ris (l : List En) : Prop := ∀ i a b, l[i]? = some a → l[i + 1]? = some b → Ky.lt a.key b.key = true

theorem Ris.ord {l : List En} (h : Ris l) : Ord l := fun i a b ha hb => by
  cases hq : Ky.lt b.key a.key with
  | false => rfl
  | true =>
    have := Ky.lt_trans (h i a b ha hb) hq
    rw [Ky.lt_irrefl] at this
    exact this.symm

theorem fits_ris {leaf : Bool} {r : Rg} {l : List En} (h : fits leaf r l = true) : Ris l := fun i a b ha hb => by
  have hg := good_of_fits h (List.getElem?_eq_some_iff.1 hb).1
  rw [good_next hb ha, Bool.and_eq_true] at hg
  exact hg.1

theorem fits_in {leaf : Bool} {r : Rg} {l : List En} (h : fits leaf r l = true) {i : Nat} {a : En} (ha : l[i]? = some a) : Ky.inn r a.key = true := by
  have hg := good_of_fits h (List.getElem?_eq_some_iff.1 ha).1
  unfold good at hg
  rw [ha] at hg
  simp only [Bool.and_eq_true] at hg
  exact hg.2.1

theorem may_parts {leaf : Bool} {r : Rg} {right : Int} {l : List En} (h : may leaf r right l = true) : Ky.emp r = false ∧ fits leaf r l = true ∧ begins leaf r.lo l = true ∧ 0 ≤ right := by
  unfold may at h
  simp only [Bool.and_eq_true, Bool.not_eq_true', decide_eq_true_eq] at h
  exact ⟨h.1.1, h.2.1, h.2.2, h.1.2⟩

/-- What parts two keys lies above the first, not above the second, and is not empty. -/
theorem part_facts {leaf : Bool} {a b m : ByteArray} (h : part leaf a b = some m) (hab : Ky.lt a b = true) : Ky.lt a m = true ∧ Ky.lt b m = false ∧ m ≠ .empty := by
  have key : Ky.lt a m = true ∧ Ky.lt b m = false := by
    unfold part at h
    cases leaf with
    | false =>
      simp at h
      subst h
      exact ⟨hab, Ky.lt_irrefl _⟩
    | true =>
      rw [hab] at h
      simp at h
      subst h
      have hcl := Ky.com_lt _ _ hab
      constructor
      · unfold Ky.lt Ky.sep
        rw [Ky.cut_list, Ky.sep_iff _ _ _ hab (by omega)]
        simp
      · unfold Ky.lt Ky.sep
        rw [Ky.cut_list]
        have := Ky.take_le b.toList (Ky.com a.toList b.toList + 1)
        cases hq : Op.bytesLess b.toList (b.toList.take (Ky.com a.toList b.toList + 1)) with
        | false => rfl
        | true =>
          rw [Bool.or_eq_true] at this
          rcases this with h1 | h1
          · have := Ky.less_trans _ _ _ hq h1
            rw [Ky.less_irrefl] at this
            exact this.symm
          · rw [beq_iff_eq] at h1
            rw [h1, Ky.less_irrefl] at hq
            exact hq.symm
  refine ⟨key.1, key.2, fun e => ?_⟩
  rw [e, Ky.lt_empty] at key
  cases key.1

theorem inn_iff (r : Rg) (k : ByteArray) : Ky.inn r k = (!Ky.lt k r.lo && (decide (r.hi = .empty) || Ky.lt k r.hi)) := by
  unfold Ky.inn Ky.below
  rw [Ky.nil_eq]

/-- A key of the page is in one of the halves. -/
theorem parts_in {lo hi m x y k : ByteArray} (hx : Ky.inn ⟨lo, hi⟩ x = true) (hy : Ky.inn ⟨lo, hi⟩ y = true) (h1 : Ky.lt x m = true) (h2 : Ky.lt y m = false) (hm : m ≠ .empty) :
    Ky.inn ⟨lo, m⟩ k = (Ky.inn ⟨lo, hi⟩ k && Ky.lt k m) ∧ Ky.inn ⟨m, hi⟩ k = (Ky.inn ⟨lo, hi⟩ k && !Ky.lt k m) := by
  obtain ⟨r, h0, hr, hn⟩ := Ky.ranks [lo, hi, m, x, y, k]
  simp only [inn_iff] at hx hy ⊢
  have e1 : decide (hi = .empty) = decide (r hi = 0) := by rw [decide_eq_decide]; exact (hn hi (by simp)).2
  have e2 : decide (m = .empty) = false := decide_eq_false hm
  have e3 : r m ≠ 0 := fun e => hm ((hn m (by simp)).2.2 e)
  rw [e1] at hx hy ⊢
  rw [e2]
  rw [(hr x (by simp) lo (by simp)).1, (hr x (by simp) hi (by simp)).1] at hx
  rw [(hr y (by simp) lo (by simp)).1, (hr y (by simp) hi (by simp)).1] at hy
  rw [(hr x (by simp) m (by simp)).1] at h1
  rw [(hr y (by simp) m (by simp)).1] at h2
  rw [(hr k (by simp) lo (by simp)).1, (hr k (by simp) hi (by simp)).1, (hr k (by simp) m (by simp)).1]
  simp only [Bool.and_eq_true, Bool.or_eq_true, Bool.not_eq_true', decide_eq_true_eq, decide_eq_false_iff_not] at hx hy h1 h2
  constructor
  · rw [Bool.eq_iff_iff]
    simp only [Bool.and_eq_true, Bool.or_eq_true, Bool.not_eq_true', decide_eq_true_eq, decide_eq_false_iff_not, Bool.false_eq_true, false_or]
    omega
  · rw [Bool.eq_iff_iff]
    simp only [Bool.and_eq_true, Bool.or_eq_true, Bool.not_eq_true', decide_eq_true_eq, decide_eq_false_iff_not]
    omega

theorem Ris.lt {l : List En} (h : Ris l) {i j : Nat} {a b : En} (hij : i < j) (ha : l[i]? = some a) (hb : l[j]? = some b) : Ky.lt a.key b.key = true := by
  obtain ⟨n, rfl⟩ : ∃ n, j = i + 1 + n := ⟨j - (i + 1), by omega⟩
  have hl := (List.getElem?_eq_some_iff.1 hb).1
  have hc := List.getElem?_eq_getElem (l := l) (i := i + 1) (by omega)
  exact Ky.lt_of_le' (h.ord.le n (i + 1) _ b hc hb) (h i a _ ha hc)

/-- What a key below what parts them has is in the first half. -/
theorem find_left {leaf : Bool} {l : List En} {h : Nat} {m key : ByteArray} (hh : h < l.length) (hd : ∀ j b, h ≤ j → l[j]? = some b → Ky.lt b.key m = false) (hk : Ky.lt key m = true) : find leaf l key = find leaf (l.take h) key := by
  have hgt : ∀ j b, h ≤ j → l[j]? = some b → Ky.lt key b.key = true := fun j b hj hb => Ky.lt_of_le' (hd j b hj hb) hk
  have hsplit : l = l.take h ++ l.drop h := (List.take_append_drop h l).symm
  unfold find
  cases leaf with
  | true =>
    have hnd : ∀ b ∈ l.drop h, is key b = false := fun b hb => by
      obtain ⟨j, hj, rfl⟩ := List.getElem_of_mem hb
      refine not_is_gt (hgt (h + j) _ (by omega) ?_)
      have := List.getElem?_eq_getElem hj
      rw [List.getElem?_drop] at this
      exact this
    have ha : l.any (is key) = (l.take h).any (is key) := by
      conv => lhs; rw [hsplit]
      rw [List.any_append]
      have : (l.drop h).any (is key) = false := by
        rw [List.any_eq_false]
        intro b hb
        rw [hnd b hb]
        simp
      rw [this, Bool.or_false]
    simp only [if_true]
    rw [ha]
    cases hq : (l.take h).any (is key) with
    | false => rfl
    | true =>
      simp only [if_true]
      have hf : l.findIdx (is key) = (l.take h).findIdx (is key) := by
        conv => lhs; rw [hsplit]
        rw [List.findIdx_append, if_pos (List.findIdx_lt_length_of_exists (by obtain ⟨x, h1, h2⟩ := List.any_eq_true.1 hq; exact ⟨x, h1, h2⟩))]
      rw [hf]
      have hlt : (l.take h).findIdx (is key) < (l.take h).length := List.findIdx_lt_length_of_exists (by obtain ⟨x, h1, h2⟩ := List.any_eq_true.1 hq; exact ⟨x, h1, h2⟩)
      rw [List.getElem?_take_of_lt (by rw [List.length_take] at hlt; omega)]
  | false =>
    have hb := List.getElem?_eq_getElem hh
    have hu : upto key l = upto key (l.take h) := by
      unfold upto
      conv => lhs; rw [hsplit]
      rw [List.findIdx_append]
      split
      · rfl
      · rename_i hn
        have hle : (l.take h).findIdx (fun e => Ky.lt key e.key) ≤ (l.take h).length := List.findIdx_le_length
        have hz : (l.drop h).findIdx (fun e => Ky.lt key e.key) = 0 := by
          rw [List.drop_eq_getElem_cons hh, List.findIdx_cons]
          simp [hgt h _ (Nat.le_refl _) hb]
        rw [hz]
        omega
    have hle : upto key (l.take h) ≤ (l.take h).length := List.findIdx_le_length
    simp only [Bool.false_eq_true, if_false]
    rw [hu]
    split
    · rw [List.getElem?_take_of_lt (by rw [List.length_take] at hle; omega)]
    · rfl

/-- What a key from what parts them on has is in the second half. -/
theorem find_right {leaf : Bool} {l : List En} {h : Nat} {m key : ByteArray} (hh : h < l.length) (hd : ∀ j b, j < h → l[j]? = some b → Ky.lt b.key m = true) (hk : Ky.lt key m = false) (hy : leaf = false → ∀ b, l[h]? = some b → Ky.lt key b.key = false) : find leaf l key = find leaf (l.drop h) key := by
  have hlt : ∀ j b, j < h → l[j]? = some b → Ky.lt b.key key = true := fun j b hj hb => Ky.lt_of_le' hk (hd j b hj hb)
  have hsplit : l = l.take h ++ l.drop h := (List.take_append_drop h l).symm
  have hmem : ∀ b ∈ l.take h, Ky.lt b.key key = true := fun b hb => by
    obtain ⟨j, hj, rfl⟩ := List.getElem_of_mem hb
    have hj' : j < h := by rw [List.length_take] at hj; omega
    refine hlt j _ hj' ?_
    have := List.getElem?_eq_getElem hj
    rw [List.getElem?_take_of_lt hj'] at this
    exact this
  have hlen : (l.take h).length = h := by rw [List.length_take]; omega
  unfold find
  cases leaf with
  | true =>
    have hnone : (l.take h).any (is key) = false := by
      rw [List.any_eq_false]
      intro b hb
      rw [not_is_lt (hmem b hb)]
      simp
    have ha : l.any (is key) = (l.drop h).any (is key) := by
      conv => lhs; rw [hsplit]
      rw [List.any_append, hnone, Bool.false_or]
    have hf : l.findIdx (is key) = h + (l.drop h).findIdx (is key) := by
      conv => lhs; rw [hsplit]
      rw [List.findIdx_append, if_neg, hlen, Nat.add_comm]
      rw [Nat.not_lt, Nat.le_iff_lt_or_eq]
      right
      refine (List.findIdx_eq_length.2 fun b hb => ?_).symm
      exact not_is_lt (hmem b hb)
    simp only [if_true]
    rw [ha, hf, List.getElem?_drop]
  | false =>
    have hb := List.getElem?_eq_getElem hh
    have hu : upto key l = h + upto key (l.drop h) := by
      unfold upto
      conv => lhs; rw [hsplit]
      rw [List.findIdx_append, if_neg, hlen, Nat.add_comm]
      rw [Nat.not_lt, Nat.le_iff_lt_or_eq]
      right
      refine (List.findIdx_eq_length.2 fun b hb => ?_).symm
      cases hq : Ky.lt key b.key with
      | false => rfl
      | true =>
        have := Ky.lt_trans hq (hmem b hb)
        rw [Ky.lt_irrefl] at this
        exact this.symm
    have hpos : 0 < upto key (l.drop h) := by
      unfold upto
      rw [List.drop_eq_getElem_cons hh, List.findIdx_cons, hy rfl _ hb]
      simp
    simp only [Bool.false_eq_true, if_false]
    rw [hu, if_pos (by omega), if_pos hpos, List.getElem?_drop]
    congr 1
    omega
end Pg

end Go.Proofs.YthpilennljpamaaGreat

namespace Go.Proofs.YthpilennljpamaaGreat
open Go.RowKit Go.Sort
set_option linter.unusedVariables false
set_option maxRecDepth 100000

namespace Pg
theorem find_leaf (l : List En) (key : ByteArray) : find true l key = l.find? (is key) := by
  unfold find
  simp only [if_true]
  cases hq : l.any (is key) with
  | false =>
    simp only [Bool.false_eq_true, if_false]
    rw [List.any_eq_false] at hq
    exact (List.find?_eq_none.2 fun x hx => hq x hx).symm
  | true =>
    simp only [if_true]
    rw [List.find?_eq_getElem?_findIdx]

theorem find_mid {p : En → Bool} (A B : List En) (y : En) : (A ++ y :: B).find? p = (A.find? p).or (if p y then some y else B.find? p) := by
  rw [List.find?_append, List.find?_cons]
  cases p y <;> rfl

theorem find_skip {p : En → Bool} {A B : List En} {y : En} (h : p y = false) : (A ++ y :: B).find? p = (A ++ B).find? p := by
  rw [find_mid, h, List.find?_append]
  rfl

/-- A list with an entry put. -/
theorem put_shape (l : List En) (e : En) : ∃ A B, putL l e = A ++ e :: B ∧ (∀ x ∈ A, is e.key x = false) ∧ ((∃ x, l = A ++ x :: B ∧ is e.key x = true) ∨ (l = A ++ B ∧ ∀ x ∈ l, is e.key x = false)) := by
  unfold putL
  cases hq : l.any (is e.key) with
  | true =>
    have hlt : l.findIdx (is e.key) < l.length := List.findIdx_lt_length_of_exists (by obtain ⟨x, h1, h2⟩ := List.any_eq_true.1 hq; exact ⟨x, h1, h2⟩)
    refine ⟨l.take (l.findIdx (is e.key)), l.drop (l.findIdx (is e.key) + 1), ?_, ?_, .inl ⟨l[l.findIdx (is e.key)], ?_, List.findIdx_getElem (w := hlt)⟩⟩
    · simp only [if_true]
      rw [List.set_eq_take_append_cons_drop, if_pos hlt]
    · intro x hx
      obtain ⟨j, hj, rfl⟩ := List.getElem_of_mem hx
      rw [List.getElem_take]
      have hj' : j < l.findIdx (is e.key) := by rw [List.length_take] at hj; omega
      have := List.not_of_lt_findIdx hj'
      simpa using this
    · rw [← List.drop_eq_getElem_cons hlt, List.take_append_drop]
  | false =>
    rw [List.any_eq_false] at hq
    have hn : ∀ x ∈ l, is e.key x = false := fun x hx => by simpa using hq x hx
    refine ⟨l.take (l.findIdx fun x => Ky.lt e.key x.key), l.drop (l.findIdx fun x => Ky.lt e.key x.key), ?_, fun x hx => hn x (List.mem_of_mem_take hx), .inr ⟨(List.take_append_drop _ _).symm, hn⟩⟩
    rfl

theorem is_self (e : En) : is e.key e = true := is_iff.2 rfl
theorem not_is {k : ByteArray} {e : En} (h : e.key ≠ k) : is k e = false := by
  cases hq : is k e with
  | false => rfl
  | true => exact absurd (is_iff.1 hq) h

theorem keep_put (l : List En) (e : En) : find true (putL l e) e.key = some e := by
  obtain ⟨A, B, hp, hA, -⟩ := put_shape l e
  rw [find_leaf, hp, find_mid, is_self, List.find?_eq_none.2 (fun x hx => by simp [hA x hx])]
  rfl

theorem keep_other (l : List En) (e : En) {other : ByteArray} (ho : other ≠ e.key) : find true (putL l e) other = find true l other := by
  obtain ⟨A, B, hp, hA, h | ⟨h, -⟩⟩ := put_shape l e
  · obtain ⟨x, hl, hx⟩ := h
    rw [find_leaf, find_leaf, hp, find_skip (not_is (fun h => ho h.symm))]
    conv => rhs; rw [hl]
    rw [find_skip (not_is (fun h => ho (by rw [← h]; exact is_iff.1 hx)))]
  · rw [find_leaf, find_leaf, hp, find_skip (not_is (fun h => ho h.symm))]
    conv => rhs; rw [h]

theorem any_put (l : List En) (e : En) : (putL l e).any (is e.key) = true := by
  obtain ⟨A, B, hp, -⟩ := put_shape l e
  rw [hp]
  exact List.any_eq_true.2 ⟨e, by simp, is_self e⟩

theorem del_put (l : List En) (e : En) : ∃ A B, putL l e = A ++ e :: B ∧ del (putL l e) ((putL l e).findIdx (is e.key)) = A ++ B ∧ (∀ x ∈ A, is e.key x = false) ∧ ((∃ x, l = A ++ x :: B ∧ is e.key x = true) ∨ (l = A ++ B ∧ ∀ x ∈ l, is e.key x = false)) := by
  obtain ⟨A, B, hp, hA, h⟩ := put_shape l e
  refine ⟨A, B, hp, ?_, hA, h⟩
  have hf : (putL l e).findIdx (is e.key) = A.length := by
    rw [hp, List.findIdx_append, if_neg, List.findIdx_cons, is_self]
    · simp
    · rw [Nat.not_lt, List.findIdx_eq_length.2 hA]
      exact Nat.le_refl _
  rw [hf]
  unfold del
  rw [hp, List.take_left, show A.length + 1 = (A ++ [e]).length by simp, show A ++ e :: B = (A ++ [e]) ++ B by simp, List.drop_left]

theorem gone (l : List En) (e : En) (hr : Ris l) : find true (del (putL l e) ((putL l e).findIdx (is e.key))) e.key = none := by
  obtain ⟨A, B, hp, hd, hA, h | ⟨h, hn⟩⟩ := del_put l e
  · obtain ⟨x, hl, hx⟩ := h
    rw [find_leaf, hd, List.find?_eq_none]
    intro y hy
    rw [List.mem_append] at hy
    rcases hy with hy | hy
    · simp [hA y hy]
    · obtain ⟨j, hj, rfl⟩ := List.getElem_of_mem hy
      have h1 : l[A.length]? = some x := by rw [hl]; simp
      have h2 : l[A.length + 1 + j]? = some B[j] := by
        rw [hl, show A ++ x :: B = (A ++ [x]) ++ B by simp, List.getElem?_append_right (by simp), List.getElem?_eq_getElem (by simpa using hj)]
        simp
      have h3 := hr.lt (by omega) h1 h2
      rw [is_iff.1 hx] at h3
      rw [not_is_gt h3]
      simp
  · rw [find_leaf, hd, ← h, List.find?_eq_none]
    intro y hy
    simp [hn y hy]

theorem gone_other (l : List En) (e : En) {other : ByteArray} (ho : other ≠ e.key) : find true (del (putL l e) ((putL l e).findIdx (is e.key))) other = find true l other := by
  obtain ⟨A, B, hp, hd, -⟩ := del_put l e
  rw [← keep_other l e ho, find_leaf, find_leaf, hd, hp, find_skip (not_is (fun h => ho h.symm))]
end Pg

end Go.Proofs.YthpilennljpamaaGreat

namespace Go.Proofs.YthpilennljpamaaGreat
open Go.RowKit Go.Sort
set_option linter.unusedVariables false
set_option maxRecDepth 100000

namespace Pg
/-- The entries of a page: they rise, and each is such as the page may have. -/
theorem fits_iff {leaf : Bool} {r : Rg} {l : List En} : fits leaf r l = true ↔ Ris l ∧ ∀ x ∈ l, Ky.inn r x.key = true ∧ kind leaf x = true := by
  constructor
  · intro h
    refine ⟨fits_ris h, fun x hx => ?_⟩
    obtain ⟨j, hj, rfl⟩ := List.getElem_of_mem hx
    have hg := good_of_fits h hj
    unfold good at hg
    rw [List.getElem?_eq_getElem hj] at hg
    simp only [Bool.and_eq_true] at hg
    exact hg.2
  · rintro ⟨h1, h2⟩
    refine fits_all fun j hj => ?_
    have hx := List.getElem?_eq_getElem hj
    have hk := h2 _ (List.getElem_mem hj)
    cases j with
    | zero => rw [good_first hx, hk.1, hk.2]; rfl
    | succ i =>
      have hd := List.getElem?_eq_getElem (l := l) (i := i) (by omega)
      rw [good_next hx hd, h1 i _ _ hd hx, hk.1, hk.2]
      rfl

/-- Entries rise: each is below each that stands behind it. -/
theorem ris_pair {l : List En} : Ris l ↔ l.Pairwise fun a b => Ky.lt a.key b.key = true := by
  constructor
  · intro h
    rw [List.pairwise_iff_getElem]
    intro i j hi hj hij
    exact h.lt hij (List.getElem?_eq_getElem hi) (List.getElem?_eq_getElem hj)
  · intro h i a b ha hb
    obtain ⟨hi, rfl⟩ := List.getElem?_eq_some_iff.1 ha
    obtain ⟨hj, rfl⟩ := List.getElem?_eq_some_iff.1 hb
    exact List.pairwise_iff_getElem.1 h i (i + 1) hi hj (by omega)

theorem lt_of_not {a b : ByteArray} (h1 : Ky.lt b a = false) (h2 : a ≠ b) : Ky.lt a b = true := by
  cases h : Ky.lt a b with
  | true => rfl
  | false => exact absurd (Ky.lt_total h h1) h2

/-- What is put rises. -/
theorem ris_put {l : List En} (h : Ris l) (e : En) : Ris (putL l e) := by
  unfold putL
  cases hq : l.any (is e.key) with
  | true =>
    simp only [if_true]
    have hlt : l.findIdx (is e.key) < l.length := List.findIdx_lt_length_of_exists (by obtain ⟨x, h1, h2⟩ := List.any_eq_true.1 hq; exact ⟨x, h1, h2⟩)
    have hk : (l[l.findIdx (is e.key)]).key = e.key := is_iff.1 (List.findIdx_getElem (w := hlt))
    have key : ∀ (i : Nat) (a : En), (l.set (l.findIdx (is e.key)) e)[i]? = some a → ∃ b : En, l[i]? = some b ∧ b.key = a.key := by
      intro i a ha
      rw [List.getElem?_set] at ha
      split at ha
      · rename_i hi
        subst hi
        first | rw [if_pos hlt] at ha | skip
        cases ha
        exact ⟨_, List.getElem?_eq_getElem hlt, hk⟩
      · exact ⟨a, ha, rfl⟩
    intro i a b ha hb
    obtain ⟨a', ha', ea⟩ := key i a ha
    obtain ⟨b', hb', eb⟩ := key (i + 1) b hb
    rw [← ea, ← eb]
    exact h i a' b' ha' hb'
  | false =>
    simp only [Bool.false_eq_true, if_false]
    rw [List.any_eq_false] at hq
    have hn : ∀ x ∈ l, e.key ≠ x.key := fun x hx hh => by have := hq x hx; rw [is_iff.2 hh.symm] at this; simp at this
    unfold ins
    obtain ⟨k, hk⟩ : ∃ k, (l.findIdx fun x => Ky.lt e.key x.key) = k := ⟨_, rfl⟩
    rw [hk]
    have hp := ris_pair.1 h
    rw [ris_pair, List.pairwise_append]
    have hsplit : l = l.take k ++ l.drop k := (List.take_append_drop k l).symm
    have hp2 : (l.take k ++ l.drop k).Pairwise fun a b => Ky.lt a.key b.key = true := by rw [← hsplit]; exact hp
    obtain ⟨p1, p2, p3⟩ := List.pairwise_append.1 hp2
    have hA : ∀ a ∈ l.take k, Ky.lt a.key e.key = true := fun a ha => by
      obtain ⟨j, hj, rfl⟩ := List.getElem_of_mem ha
      rw [List.getElem_take]
      have hj' : j < l.findIdx fun x => Ky.lt e.key x.key := by rw [List.length_take] at hj; omega
      have hnl := List.not_of_lt_findIdx hj'
      have hjl : j < l.length := by rw [List.length_take] at hj; omega
      exact lt_of_not (by simpa using hnl) (fun hh => hn _ (List.getElem_mem hjl) hh.symm)
    have hB : ∀ b ∈ l.drop k, Ky.lt e.key b.key = true := fun b hb => by
      by_cases hkl : k < l.length
      · have h0 : Ky.lt e.key (l[k]).key = true := by
          have := List.findIdx_getElem (p := fun x : En => Ky.lt e.key x.key) (xs := l) (w := by rw [hk]; exact hkl)
          simpa [hk] using this
        rw [List.drop_eq_getElem_cons hkl] at hb p2
        rcases List.mem_cons.1 hb with rfl | hb
        · exact h0
        · exact Ky.lt_trans h0 ((List.pairwise_cons.1 p2).1 b hb)
      · rw [List.drop_eq_nil_of_le (by omega)] at hb
        cases hb
    refine ⟨p1, List.pairwise_cons.2 ⟨hB, p2⟩, fun a ha b hb => ?_⟩
    rcases List.mem_cons.1 hb with rfl | hb
    · exact hA a ha
    · exact p3 a ha b hb

theorem mem_put {l : List En} {e x : En} (h : x ∈ putL l e) : x = e ∨ x ∈ l := by
  obtain ⟨A, B, hp, hA, hh⟩ := put_shape l e
  rw [hp] at h
  simp only [List.mem_append, List.mem_cons] at h
  rcases hh with ⟨y, hl, -⟩ | ⟨hl, -⟩
  · rw [hl]
    simp only [List.mem_append, List.mem_cons]
    rcases h with h | rfl | h
    · exact .inr (.inl h)
    · exact .inl rfl
    · exact .inr (.inr (.inr h))
  · rw [hl]
    simp only [List.mem_append]
    rcases h with h | rfl | h
    · exact .inr (.inl h)
    · exact .inl rfl
    · exact .inr (.inr h)

theorem begins_cons {leaf : Bool} {lo : ByteArray} {x : En} {t : List En} : begins leaf lo (x :: t) = (leaf || (x.key.toList == lo.toList)) := rfl

theorem may_mk {leaf : Bool} {r : Rg} {right : Int} {l : List En} (h1 : Ky.emp r = false) (h2 : 0 ≤ right) (h3 : fits leaf r l = true) (h4 : begins leaf r.lo l = true) : may leaf r right l = true := by
  unfold may
  rw [h1, decide_eq_true h2, h3, h4]
  rfl

/-- A page with an entry that it may have may be. -/
theorem may_put {leaf : Bool} {lo hi : ByteArray} {right : Int} {l : List En} {e : En} (h : may leaf ⟨lo, hi⟩ right l = true) (hi2 : Ky.inn ⟨lo, hi⟩ e.key = true) (hk : kind leaf e = true) : may leaf ⟨lo, hi⟩ right (putL l e) = true := by
  obtain ⟨h1, h2, h3, h4⟩ := may_parts h
  obtain ⟨hr, hm⟩ := fits_iff.1 h2
  refine may_mk h1 h4 (fits_iff.2 ⟨ris_put hr e, fun x hx => ?_⟩) ?_
  · rcases mem_put hx with rfl | hx
    · exact ⟨hi2, hk⟩
    · exact hm x hx
  · cases leaf with
    | true => rfl
    | false =>
      cases l with
      | nil => cases h3
      | cons x t =>
        have hx0 : x.key = lo := by
          simp only [begins_cons, Bool.false_or, beq_iff_eq] at h3
          exact Ky.toList_inj h3
        obtain ⟨A, B, hp, hA, hh⟩ := put_shape (x :: t) e
        rw [hp]
        cases A with
        | nil =>
          rcases hh with ⟨y, hl, hy⟩ | ⟨hl, hn⟩
          · simp only [List.nil_append, List.cons.injEq] at hl
            show begins false lo (e :: B) = true
            rw [begins_cons, ← is_iff.1 hy, ← hl.1, hx0]
            simp
          · exfalso
            have hrp := ris_put hr e
            rw [hp] at hrp
            simp only [List.nil_append] at hl hrp
            subst hl
            have h5 := hrp 0 e x rfl rfl
            rw [hx0] at h5
            have h6 : Ky.lt e.key lo = false := by
              rw [inn_iff] at hi2
              simp only [Bool.and_eq_true, Bool.not_eq_true'] at hi2
              exact hi2.1
            rw [h5] at h6
            cases h6
        | cons a A =>
          have : a = x := by
            rcases hh with ⟨y, hl, -⟩ | ⟨hl, -⟩
            · simp only [List.cons_append, List.cons.injEq] at hl; exact hl.1.symm
            · simp only [List.cons_append, List.cons.injEq] at hl; exact hl.1.symm
          subst this
          show begins false lo (a :: (A ++ e :: B)) = true
          rw [begins_cons, hx0]
          simp

/-- A page without an entry may be (but that an inner page's first one stays). -/
theorem may_del {leaf : Bool} {lo hi : ByteArray} {right : Int} {l : List En} {i : Nat} (h : may leaf ⟨lo, hi⟩ right l = true) (hi2 : leaf = true ∨ 0 < i) : may leaf ⟨lo, hi⟩ right (del l i) = true := by
  obtain ⟨h1, h2, h3, h4⟩ := may_parts h
  obtain ⟨hr, hm⟩ := fits_iff.1 h2
  have hsub : (del l i).Sublist l := by
    unfold del
    conv => rhs; rw [← List.take_append_drop i l]
    exact (List.Sublist.refl _).append (by rw [← List.drop_drop]; exact List.drop_sublist _ _)
  refine may_mk h1 h4 (fits_iff.2 ⟨ris_pair.2 ((ris_pair.1 hr).sublist hsub), fun x hx => hm x (hsub.subset hx)⟩) ?_
  cases leaf with
  | true => rfl
  | false =>
    rcases hi2 with hh | hh
    · cases hh
    · cases l with
      | nil => cases h3
      | cons x t =>
        obtain ⟨j, rfl⟩ : ∃ j, i = j + 1 := ⟨i - 1, by omega⟩
        exact h3

/-- The halves of a page that may be may be. -/
theorem may_split {leaf : Bool} {lo hi m : ByteArray} {right id : Int} {l : List En} {i : Nat} {x y : En} (h : may leaf ⟨lo, hi⟩ right l = true) (hid : 1 ≤ id) (hx : l[i]? = some x) (hy : l[i + 1]? = some y) (hp : part leaf x.key y.key = some m) :
    may leaf ⟨lo, m⟩ id (l.take (i + 1)) = true ∧ may leaf ⟨m, hi⟩ right (l.drop (i + 1)) = true := by
  obtain ⟨h1, h2, h3, h4⟩ := may_parts h
  obtain ⟨hr, hm⟩ := fits_iff.1 h2
  obtain ⟨f1, f2, f3⟩ := part_facts hp (hr i x y hx hy)
  have ix := (hm x (List.mem_of_getElem? hx)).1
  have iy := (hm y (List.mem_of_getElem? hy)).1
  have hil := (List.getElem?_eq_some_iff.1 hy).1
  have e1 : Ky.emp ⟨lo, m⟩ = false := by
    unfold Ky.emp Ky.below
    rw [inn_iff] at ix
    simp only [Bool.and_eq_true, Bool.not_eq_true'] at ix
    rw [show Ky.lt lo m = true from Ky.lt_of_le ix.1 f1]
    simp
  have e2 : Ky.emp ⟨m, hi⟩ = false := by
    unfold Ky.emp Ky.below
    rw [inn_iff] at iy
    simp only [Bool.and_eq_true, Bool.or_eq_true, decide_eq_true_eq] at iy
    rw [Ky.nil_eq]
    rcases iy.2 with hh | hh
    · simp [hh]
    · rw [show Ky.lt m hi = true from Ky.lt_of_le f2 hh]; simp
  have hkt : ∀ z ∈ l.take (i + 1), Ky.lt z.key m = true := fun z hz => by
    obtain ⟨j, hj, rfl⟩ := List.getElem_of_mem hz
    have hj' : j < i + 1 := by rw [List.length_take] at hj; omega
    have hz' : l[j]? = some ((l.take (i + 1))[j]) := by
      have := List.getElem?_eq_getElem hj
      rw [List.getElem?_take_of_lt hj'] at this
      exact this
    by_cases hji : j = i
    · subst hji
      rw [hx] at hz'
      cases hz'
      exact f1
    · exact Ky.lt_trans (hr.lt (by omega) hz' hx) f1
  have hkd : ∀ z ∈ l.drop (i + 1), Ky.lt z.key m = false := fun z hz => by
    obtain ⟨j, hj, rfl⟩ := List.getElem_of_mem hz
    have hz' : l[i + 1 + j]? = some ((l.drop (i + 1))[j]) := by
      have := List.getElem?_eq_getElem hj
      rw [List.getElem?_drop] at this
      exact this
    exact Ky.le_trans f2 (hr.ord.le j (i + 1) y _ hy hz')
  constructor
  · refine may_mk e1 (by omega) (fits_iff.2 ⟨ris_pair.2 ((ris_pair.1 hr).sublist (List.take_sublist _ _)), fun z hz => ?_⟩) ?_
    · have hz1 := hm z (List.mem_of_mem_take hz)
      refine ⟨?_, hz1.2⟩
      rw [inn_iff] at hz1 ⊢
      simp only [Bool.and_eq_true, Bool.or_eq_true] at hz1 ⊢
      exact ⟨hz1.1.1, .inr (hkt z hz)⟩
    · cases l with
      | nil => simp at hil
      | cons a t => exact h3
  · refine may_mk e2 h4 (fits_iff.2 ⟨ris_pair.2 ((ris_pair.1 hr).sublist (List.drop_sublist _ _)), fun z hz => ?_⟩) ?_
    · have hz1 := hm z (List.mem_of_mem_drop hz)
      refine ⟨?_, hz1.2⟩
      rw [inn_iff] at hz1 ⊢
      simp only [Bool.and_eq_true, Bool.or_eq_true, Bool.not_eq_true'] at hz1 ⊢
      exact ⟨hkd z hz, hz1.1.2⟩
    · cases leaf with
      | true => rfl
      | false =>
        simp [part] at hp
        rw [List.drop_eq_getElem_cons hil]
        show begins false m _ = true
        rw [begins_cons]
        obtain ⟨hyl, hy2⟩ := List.getElem?_eq_some_iff.1 hy
        rw [hy2, hp]
        simp
end Pg

end Go.Proofs.YthpilennljpamaaGreat

namespace Go.Proofs.YthpilennljpamaaGreat
open Go.RowKit
set_option linter.unusedVariables false

namespace Rs
abbrev Pw (l : List En) : Prop := l.Pairwise fun a b => Ky.lt a.key b.key = true

theorem is_iff {key : ByteArray} {x : En} : Pg.is key x = true ↔ x.key = key := by
  unfold Pg.is
  constructor
  · intro h
    exact Ky.toList_inj (by simpa using h)
  · rintro rfl
    simp
theorem is_not {key : ByteArray} {x : En} : Pg.is key x = false ↔ x.key ≠ key := by
  rw [← Bool.not_eq_true, is_iff]

theorem parts {l : List En} (h : Pw l) (k : ByteArray) : ∃ A B, l = A ++ B ∧ (∀ y ∈ A, Ky.lt y.key k = true) ∧ (∀ y ∈ B, Ky.lt y.key k = false) := by
  induction l with
  | nil => exact ⟨[], [], rfl, by simp, by simp⟩
  | cons x t ih =>
    replace h := List.pairwise_cons.1 h
    cases hx : Ky.lt x.key k with
    | true =>
      obtain ⟨A, B, rfl, hA, hB⟩ := ih h.2
      refine ⟨x :: A, B, rfl, fun y hy => ?_, hB⟩
      rcases List.mem_cons.1 hy with rfl | hy
      · exact hx
      · exact hA y hy
    | false =>
      refine ⟨[], x :: t, rfl, by simp, fun y hy => ?_⟩
      rcases List.mem_cons.1 hy with rfl | hy
      · exact hx
      · cases hq : Ky.lt y.key k with
        | false => rfl
        | true =>
          have := Ky.lt_trans (h.1 y hy) hq
          rw [hx] at this
          exact this.symm ▸ rfl

/-- The part from a key on: nothing, the key's own entry, or what lies above it. -/
theorem from_key {B : List En} (h : Pw B) {k : ByteArray} (hB : ∀ y ∈ B, Ky.lt y.key k = false) : (∃ x r, B = x :: r ∧ x.key = k ∧ ∀ y ∈ r, Ky.lt k y.key = true) ∨ (∀ y ∈ B, Ky.lt k y.key = true) := by
  cases B with
  | nil => exact .inr (by simp)
  | cons x r =>
    replace h := List.pairwise_cons.1 h
    by_cases hx : x.key = k
    · exact .inl ⟨x, r, rfl, hx, fun y hy => hx ▸ h.1 y hy⟩
    · have h1 : Ky.lt k x.key = true := by
        cases hq : Ky.lt k x.key with
        | true => rfl
        | false => exact absurd (Ky.lt_total (hB x (by simp)) hq) hx
      refine .inr fun y hy => ?_
      rcases List.mem_cons.1 hy with rfl | hy
      · exact h1
      · exact Ky.lt_trans h1 (h.1 y hy)

theorem ne_lt {a b : ByteArray} (h : Ky.lt a b = true) : a ≠ b := by
  rintro rfl
  rw [Ky.lt_irrefl] at h
  cases h
theorem lt_not {a b : ByteArray} (h : Ky.lt a b = true) : Ky.lt b a = false := by
  cases hq : Ky.lt b a with
  | false => rfl
  | true =>
    have := Ky.lt_trans h hq
    rw [Ky.lt_irrefl] at this
    cases this

theorem put_eq {l : List En} (h : Pw l) (e : En) : ∃ A B, (∀ y ∈ A, Ky.lt y.key e.key = true) ∧ (∀ y ∈ B, Ky.lt e.key y.key = true) ∧ Pg.putL l e = A ++ e :: B ∧ ((∃ x, x.key = e.key ∧ l = A ++ x :: B) ∨ l = A ++ B) := by
  obtain ⟨A, B, rfl, hA, hB⟩ := parts h e.key
  have hp := List.pairwise_append.1 h
  rcases from_key hp.2.1 hB with ⟨x, r, rfl, hx, hr⟩ | hB2
  · exact ⟨A, r, hA, hr, Dr.putL_same (fun y hy => is_not.2 (ne_lt (hA y hy))) (is_iff.2 hx), .inl ⟨x, hx, rfl⟩⟩
  · refine ⟨A, B, hA, hB2, Dr.putL_new (fun y hy => ?_) (fun y hy => lt_not (hA y hy)) ?_, .inr rfl⟩
    · rcases List.mem_append.1 hy with hy | hy
      · exact is_not.2 (ne_lt (hA y hy))
      · exact is_not.2 (Ne.symm (ne_lt (hB2 y hy)))
    · cases B with
      | nil => exact .inl rfl
      | cons x r => exact .inr ⟨x, r, rfl, hB2 x (by simp)⟩

theorem put_mem {l : List En} (h : Pw l) (e x : En) : x ∈ Pg.putL l e ↔ x = e ∨ (x ∈ l ∧ x.key ≠ e.key) := by
  obtain ⟨A, B, hA, hB, he, hl⟩ := put_eq h e
  rw [he]
  simp only [List.mem_append, List.mem_cons]
  constructor
  · rintro (hx | rfl | hx)
    · exact .inr ⟨by rcases hl with ⟨y, _, rfl⟩ | rfl <;> simp [hx], ne_lt (hA x hx)⟩
    · exact .inl rfl
    · exact .inr ⟨by rcases hl with ⟨y, _, rfl⟩ | rfl <;> simp [hx], Ne.symm (ne_lt (hB x hx))⟩
  · rintro (rfl | ⟨hx, hk⟩)
    · exact .inr (.inl rfl)
    · rcases hl with ⟨y, hy, rfl⟩ | rfl
      · rcases List.mem_append.1 hx with hx | hx
        · exact .inl hx
        · rcases List.mem_cons.1 hx with rfl | hx
          · exact absurd hy hk
          · exact .inr (.inr hx)
      · rcases List.mem_append.1 hx with hx | hx
        · exact .inl hx
        · exact .inr (.inr hx)

theorem wo_eq {l : List En} (h : Pw l) (k : ByteArray) : ∃ A B, (∀ y ∈ A, Ky.lt y.key k = true) ∧ (∀ y ∈ B, Ky.lt k y.key = true) ∧ Dr.without l k = A ++ B ∧ ((∃ x, x.key = k ∧ l = A ++ x :: B) ∨ l = A ++ B) := by
  obtain ⟨A, B, rfl, hA, hB⟩ := parts h k
  have hp := List.pairwise_append.1 h
  rcases from_key hp.2.1 hB with ⟨x, r, rfl, hx, hr⟩ | hB2
  · exact ⟨A, r, hA, hr, Dr.without_same (fun y hy => is_not.2 (ne_lt (hA y hy))) (is_iff.2 hx), .inl ⟨x, hx, rfl⟩⟩
  · refine ⟨A, B, hA, hB2, Dr.without_none (fun y hy => ?_), .inr rfl⟩
    rcases List.mem_append.1 hy with hy | hy
    · exact is_not.2 (ne_lt (hA y hy))
    · exact is_not.2 (Ne.symm (ne_lt (hB2 y hy)))

theorem wo_mem {l : List En} (h : Pw l) (k : ByteArray) (x : En) : x ∈ Dr.without l k ↔ x ∈ l ∧ x.key ≠ k := by
  obtain ⟨A, B, hA, hB, he, hl⟩ := wo_eq h k
  rw [he]
  simp only [List.mem_append]
  constructor
  · rintro (hx | hx)
    · exact ⟨by rcases hl with ⟨y, _, rfl⟩ | rfl <;> simp [hx], ne_lt (hA x hx)⟩
    · exact ⟨by rcases hl with ⟨y, _, rfl⟩ | rfl <;> simp [hx], Ne.symm (ne_lt (hB x hx))⟩
  · rintro ⟨hx, hk⟩
    rcases hl with ⟨y, hy, rfl⟩ | rfl
    · rcases List.mem_append.1 hx with hx | hx
      · exact .inl hx
      · rcases List.mem_cons.1 hx with rfl | hx
        · exact absurd hy hk
        · exact .inr hx
    · exact List.mem_append.1 hx

theorem put_pw {l : List En} (h : Pw l) (e : En) : Pw (Pg.putL l e) := Pg.ris_pair.1 (Pg.ris_put (Pg.ris_pair.2 h) e)
theorem wo_pw {l : List En} (h : Pw l) (k : ByteArray) : Pw (Dr.without l k) := by
  obtain ⟨A, B, hA, hB, he, hl⟩ := wo_eq h k
  rw [he]
  rcases hl with ⟨x, _, rfl⟩ | rfl
  · exact h.sublist (List.Sublist.append_left (List.sublist_cons_self _ _) _)
  · exact h

theorem ext {a b : List En} (ha : Pw a) (hb : Pw b) (h : ∀ x, x ∈ a ↔ x ∈ b) : a = b := by
  induction a generalizing b with
  | nil =>
    cases b with
    | nil => rfl
    | cons y t => exact absurd ((h y).2 (by simp)) (by simp)
  | cons x s ih =>
    cases b with
    | nil => exact absurd ((h x).1 (by simp)) (by simp)
    | cons y t =>
      replace ha := List.pairwise_cons.1 ha
      replace hb := List.pairwise_cons.1 hb
      have hxy : x = y := by
        rcases List.mem_cons.1 ((h x).1 (by simp)) with hx | hx
        · exact hx
        · rcases List.mem_cons.1 ((h y).2 (by simp)) with hy | hy
          · exact hy.symm
          · have := Ky.lt_trans (hb.1 x hx) (ha.1 y hy)
            rw [Ky.lt_irrefl] at this
            cases this
      subst hxy
      congr 1
      refine ih ha.2 hb.2 fun z => ⟨fun hz => ?_, fun hz => ?_⟩
      · rcases List.mem_cons.1 ((h z).1 (by simp [hz])) with rfl | h1
        · exact absurd rfl (ne_lt (ha.1 z hz))
        · exact h1
      · rcases List.mem_cons.1 ((h z).2 (by simp [hz])) with rfl | h1
        · exact absurd rfl (ne_lt (hb.1 z hz))
        · exact h1

theorem uniq {l : List En} (h : Pw l) {x y : En} (hx : x ∈ l) (hy : y ∈ l) (hk : x.key = y.key) : x = y := by
  induction l with
  | nil => cases hx
  | cons z t ih =>
    replace h := List.pairwise_cons.1 h
    rcases List.mem_cons.1 hx with rfl | hx1
    · rcases List.mem_cons.1 hy with rfl | hy1
      · rfl
      · exact absurd hk (ne_lt (h.1 y hy1))
    · rcases List.mem_cons.1 hy with rfl | hy1
      · exact absurd hk.symm (ne_lt (h.1 x hx1))
      · exact ih h.2 hx1 hy1
end Rs

namespace Dl
open Rs
theorem may_put (e : En) : may ⟨1, e, ⟨#[]⟩, 0, Pg.zero⟩ = true := by
  unfold may
  rw [show named ⟨1, e, ⟨#[]⟩, 0, Pg.zero⟩ = ⟨1, e, ⟨#[]⟩, 0, Pg.zero⟩ from rfl, same_self]
  rfl
theorem may_rem (k : ByteArray) : may ⟨2, En.zero, k, 0, Pg.zero⟩ = true := by
  unfold may
  rw [show named ⟨2, En.zero, k, 0, Pg.zero⟩ = ⟨2, En.zero, k, 0, Pg.zero⟩ from rfl, same_self]
  rfl

theorem without_l (g : Pp) (k : ByteArray) : without g k = ⟨g.leaf, g.lo, g.hi, g.r, Dr.without g.l k⟩ := by
  unfold without Dr.without
  split <;> rfl

/-- What gives a key back what a page has by it. -/
theorem restored {g : Pp} (hg : Pw g.l) {k : ByteArray} (hk : Ky.inn ⟨g.lo, g.hi⟩ k = true) {l' : List En} (hl : Pw l') (h : ∀ x : En, x.key ≠ k → (x ∈ l' ↔ x ∈ g.l)) : apply ⟨g.leaf, g.lo, g.hi, g.r, l'⟩ (restore g k) = (g, 0) := by
  obtain ⟨leaf, lo, hi, r, gl⟩ := g
  simp only at hg hk h ⊢
  unfold restore
  simp only
  cases hf : gl.find? (Pg.is k) with
  | some e =>
    have h1 : e ∈ gl := List.mem_of_find?_eq_some hf
    have h2 : e.key = k := is_iff.1 (List.find?_some hf)
    simp only
    rw [apply_1 (may_put e)]
    unfold Pg.put
    simp only
    rw [h2, if_pos hk]
    congr 2
    refine ext (put_pw hl e) hg fun x => ?_
    rw [put_mem hl, h2]
    constructor
    · rintro (rfl | ⟨hx, hk2⟩)
      · exact h1
      · exact (h x hk2).1 hx
    · intro hx
      by_cases hk2 : x.key = k
      · exact .inl (uniq hg hx h1 (hk2.trans h2.symm))
      · exact .inr ⟨(h x hk2).2 hx, hk2⟩
  | none =>
    simp only
    rw [apply_2 (may_rem k), if_pos hk, without_l]
    congr 2
    refine ext (wo_pw hl k) hg fun x => ?_
    rw [wo_mem hl]
    constructor
    · rintro ⟨hx, hk2⟩
      exact (h x hk2).1 hx
    · intro hx
      have hk2 : x.key ≠ k := fun e => by
        have := List.find?_eq_none.1 hf x hx
        exact this (is_iff.2 e)
      exact ⟨(h x hk2).2 hx, hk2⟩

theorem put_ok {g : Pp} {e : En} (h : (Pg.put g e).2 = 0) : Ky.inn ⟨g.lo, g.hi⟩ e.key = true ∧ (Pg.put g e).1 = ⟨g.leaf, g.lo, g.hi, g.r, Pg.putL g.l e⟩ := by
  unfold Pg.put at h ⊢
  by_cases hi : Ky.inn ⟨g.lo, g.hi⟩ e.key = true
  · rw [if_pos hi]
    exact ⟨hi, rfl⟩
  · rw [if_neg hi] at h
    simp at h

theorem back {g : Pp} {d u : De} (hm : Pg.may g.leaf ⟨g.lo, g.hi⟩ g.r g.l = true) (hu : undo g d = some u) : fo g [d, u] = (g, 0) := by
  have hg : Pw g.l := Pg.ris_pair.1 (Pg.fits_ris (Pg.may_parts hm).2.1)
  unfold undo at hu
  by_cases h0 : (apply g d).2 = 0
  · rw [if_pos h0] at hu
    have hf : fo g [d, u] = apply (apply g d).1 u := by
      show ap (ap (g, 0) d) u = _
      have h1 : ap (g, 0) d = apply g d := rfl
      rw [h1]
      unfold ap
      rw [if_pos h0]
    rw [hf]
    have hmay := (apply_ok h0).1
    obtain ⟨k, e, key, pg, rt⟩ := d
    simp only at hu
    by_cases h1 : k = 1
    · subst h1
      simp at hu
      subst hu
      rw [apply_1 hmay] at h0 ⊢
      obtain ⟨h2, h3⟩ := put_ok h0
      rw [h3]
      exact restored hg h2 (put_pw hg e) fun x hx => by
        rw [put_mem hg]
        exact ⟨fun h => h.elim (fun e2 => absurd (by rw [e2]) hx) (·.1), fun h => .inr ⟨h, hx⟩⟩
    · by_cases h2 : k = 2
      · subst h2
        simp at hu
        subst hu
        rw [apply_2 hmay] at h0 ⊢
        by_cases hi : Ky.inn ⟨g.lo, g.hi⟩ key = true
        · rw [if_pos hi, without_l]
          exact restored hg hi (wo_pw hg key) fun x hx => by
            rw [wo_mem hg]
            exact ⟨(·.1), fun h => ⟨h, hx⟩⟩
        · rw [if_neg hi] at h0
          simp at h0
      · rw [if_neg h1, if_neg h2] at hu
        cases hu
  · rw [if_neg h0] at hu
    cases hu
end Dl
end Go.Proofs.YthpilennljpamaaGreat

namespace Go.Proofs.YthpilennljpamaaGreat
open Go.RowKit
set_option linter.unusedVariables false

namespace Dl
open Rs
/-- The key that a put or a remove names. -/
def nk (d : De) : ByteArray := if d.k = 1 then d.e.key else d.key
/-- The entries by a put or a remove. -/
def chg (l : List En) (d : De) : List En := if d.k = 1 then Pg.putL l d.e else Dr.without l d.key

theorem chg_pw {l : List En} (h : Pw l) (d : De) : Pw (chg l d) := by
  unfold chg
  split
  · exact put_pw h _
  · exact wo_pw h _
theorem chg_mem {l : List En} (h : Pw l) (d : De) (x : En) : x ∈ chg l d ↔ (d.k = 1 ∧ x = d.e) ∨ (x ∈ l ∧ x.key ≠ nk d) := by
  unfold chg nk
  by_cases hk : d.k = 1
  · rw [if_pos hk, if_pos hk, put_mem h]
    simp [hk]
  · rw [if_neg hk, if_neg hk, wo_mem h]
    simp [hk]
theorem chg_swap {l : List En} (h : Pw l) {a b : De} (hn : nk a ≠ nk b) : chg (chg l a) b = chg (chg l b) a := by
  refine ext (chg_pw (chg_pw h a) b) (chg_pw (chg_pw h b) a) fun x => ?_
  rw [chg_mem (chg_pw h a), chg_mem h, chg_mem (chg_pw h b), chg_mem h]
  have ha : a.k = 1 → x = a.e → x.key = nk a := fun h1 h2 => by unfold nk; rw [if_pos h1, h2]
  have hb : b.k = 1 → x = b.e → x.key = nk b := fun h1 h2 => by unfold nk; rw [if_pos h1, h2]
  constructor
  · rintro (⟨h1, h2⟩ | ⟨⟨h1, h2⟩ | ⟨h1, h2⟩, h3⟩)
    · exact .inr ⟨.inl ⟨h1, h2⟩, fun e => hn ((e.symm.trans (hb h1 h2)))⟩
    · exact .inl ⟨h1, h2⟩
    · exact .inr ⟨.inr ⟨h1, h3⟩, h2⟩
  · rintro (⟨h1, h2⟩ | ⟨⟨h1, h2⟩ | ⟨h1, h2⟩, h3⟩)
    · exact .inr ⟨.inl ⟨h1, h2⟩, fun e => hn ((ha h1 h2).symm.trans e)⟩
    · exact .inl ⟨h1, h2⟩
    · exact .inr ⟨.inr ⟨h1, h3⟩, h2⟩

theorem apply_chg (g : Pp) {d : De} (hk : d.k = 1 ∨ d.k = 2) : apply g d = if may d = true then (if Ky.inn ⟨g.lo, g.hi⟩ (nk d) = true then (⟨g.leaf, g.lo, g.hi, g.r, chg g.l d⟩, 0) else (Pg.zero, 73)) else (Pg.zero, 90) := by
  by_cases hm : may d = true
  · rw [if_pos hm]
    obtain ⟨k, e, key, pg, rt⟩ := d
    simp only at hk
    rcases hk with rfl | rfl
    · rw [apply_1 hm]; rfl
    · rw [apply_2 hm, without_l]; rfl
  · rw [if_neg hm, apply_not (by simpa using hm)]

theorem fo_two (g : Pp) {a b : De} (ha : a.k = 1 ∨ a.k = 2) (hb : b.k = 1 ∨ b.k = 2) :
    ((fo g [a, b]).2 = 0 ↔ (may a = true ∧ may b = true ∧ Ky.inn ⟨g.lo, g.hi⟩ (nk a) = true ∧ Ky.inn ⟨g.lo, g.hi⟩ (nk b) = true)) ∧ ((fo g [a, b]).2 = 0 → (fo g [a, b]).1 = ⟨g.leaf, g.lo, g.hi, g.r, chg (chg g.l a) b⟩) := by
  have h1 : fo g [a, b] = ap (apply g a) b := rfl
  rw [h1, apply_chg g ha]
  by_cases m1 : may a = true
  · rw [if_pos m1]
    by_cases i1 : Ky.inn ⟨g.lo, g.hi⟩ (nk a) = true
    · rw [if_pos i1]
      unfold ap
      rw [if_pos rfl, apply_chg _ hb]
      by_cases m2 : may b = true
      · rw [if_pos m2]
        simp only
        by_cases i2 : Ky.inn ⟨g.lo, g.hi⟩ (nk b) = true
        · rw [if_pos i2]; simp [m1, m2, i1, i2]
        · rw [if_neg i2]; simp [i2]
      · rw [if_neg m2]; simp [m2]
    · rw [if_neg i1]
      unfold ap
      simp [i1]
  · rw [if_neg m1]
    unfold ap
    simp [m1]

/-- Two changes of different keys, in either order: both are refused or the page is the same. -/
theorem swap {g : Pp} (hm : Pg.may g.leaf ⟨g.lo, g.hi⟩ g.r g.l = true) {a b : De} (ha : a.k = 1 ∨ a.k = 2) (hb : b.k = 1 ∨ b.k = 2) (hne : (a.e.key.toList ++ a.key.toList) ≠ (b.e.key.toList ++ b.key.toList)) :
    ((fo g [a, b]).2 = 0 ↔ (fo g [b, a]).2 = 0) ∧ ((fo g [a, b]).2 = 0 → (fo g [a, b]).1 = (fo g [b, a]).1) := by
  have hg : Pw g.l := Pg.ris_pair.1 (Pg.fits_ris (Pg.may_parts hm).2.1)
  obtain ⟨h1, h2⟩ := fo_two g ha hb
  obtain ⟨h3, h4⟩ := fo_two g hb ha
  have hiff : (fo g [a, b]).2 = 0 ↔ (fo g [b, a]).2 = 0 := by
    rw [h1, h3]
    exact ⟨fun ⟨a, b, c, d⟩ => ⟨b, a, d, c⟩, fun ⟨a, b, c, d⟩ => ⟨b, a, d, c⟩⟩
  refine ⟨hiff, fun h0 => ?_⟩
  rw [h2 h0, h4 (hiff.1 h0)]
  obtain ⟨m1, m2, -⟩ := h1.1 h0
  congr 1
  refine chg_swap hg fun hk => hne ?_
  have nm : ∀ d : De, may d = true → (d.k = 1 ∨ d.k = 2) → d.e.key.toList ++ d.key.toList = (nk d).toList := by
    intro d hd hk
    unfold may same at hd
    simp only [Bool.and_eq_true] at hd
    obtain ⟨⟨-, he, hkey, -⟩, -⟩ := hd
    rcases hk with hk | hk
    · have : d.key.toList = [] := by
        have := eq_of_beq hkey
        rw [this]
        unfold named
        rw [if_pos hk]
        exact ByteArray.toList_eq _
      unfold nk
      rw [if_pos hk, this, List.append_nil]
    · have he2 := (En.eqb_iff _ _).1 he
      have : d.e.key.toList = [] := by
        rw [he2]
        unfold named
        rw [if_neg (by rw [hk]; decide), if_pos hk]
        exact ByteArray.toList_eq _
      unfold nk
      rw [if_neg (by rw [hk]; decide), this, List.nil_append]
  rw [nm a m1 ha, nm b m2 hb, hk]

theorem putL_le (l : List En) (e : En) : (Pg.putL l e).length ≤ l.length + 1 := by
  unfold Pg.putL Pg.ins
  split
  · simp
  · first | (simp; done) | (simp; omega)
theorem without_le (l : List En) (k : ByteArray) : (Dr.without l k).length ≤ l.length := by
  unfold Dr.without Pg.del
  split
  · first | (simp; done) | (simp; omega)
  · exact Nat.le_refl _
theorem entS_le (l : List En) (d : De) : (entS l d).length ≤ l.length + d.rt.l.length + 1 := by
  unfold entS
  split
  · have := putL_le l d.e; omega
  · split
    · have := without_le l d.key; omega
    · split
      · have := List.length_filter_le (fun e : En => Ky.lt e.key d.key) l; omega
      · split
        · simp
        · omega
end Dl
end Go.Proofs.YthpilennljpamaaGreat

namespace Go.Proofs.YthpilennljpamaaGreat
open Go.ChangeShapes Go.WideShapes Go.ChangeAt Go.RowKit
set_option linter.unusedVariables false
set_option maxRecDepth 100000

theorem bulk_one {H : Type} (d : DataW H) : 1 ≤ Rows.uptoBulk d := by
  cases d with
  | lit l => cases l <;> simp [Rows.uptoBulk]
  | nil => simp [Rows.uptoBulk]
  | ptr d => simp [Rows.uptoBulk]
  | slice elems spare => simp [Rows.uptoBulk]
  | agg parts => simp [Rows.uptoBulk]
  | iface t d => simp [Rows.uptoBulk]
  | map entries => simp [Rows.uptoBulk]
  | held h => simp [Rows.uptoBulk]

theorem bulk_length {H : Type} (l : List (DataW H)) : l.length ≤ Rows.uptoBulkAll l := by
  induction l with
  | nil => simp [Rows.uptoBulkAll]
  | cons x r ih =>
    have := bulk_one x
    simp only [Rows.uptoBulkAll, List.length_cons]
    omega

theorem bulk_part {H : Type} {d : DataW H} {l : List (DataW H)} (h : d ∈ l) : Rows.uptoBulk d ≤ Rows.uptoBulkAll l := by
  induction l with
  | nil => cases h
  | cons x r ih =>
    simp only [Rows.uptoBulkAll]
    cases List.mem_cons.1 h with
    | inl e => subst e; omega
    | inr e => have := ih e; omega

theorem bulk_bound {H : Type} {l : List (DataW H)} (hk : Rows.uptoSmall H l = true) : Rows.uptoBulkAll l ≤ 1048576 := of_decide_eq_true hk

theorem small_slice {H : Type} {l : List (DataW H)} (hk : Rows.uptoSmall H l = true) {d : DataW H} (hd : d ∈ l) : ∀ elems spare, d = .slice elems spare → elems.length + spare.length ≤ 1048576 := by
  intro elems spare e
  subst e
  have h1 := bulk_part hd
  have h2 := bulk_bound hk
  have h3 := bulk_length elems
  have h4 := bulk_length spare
  simp only [Rows.uptoBulk] at h1
  omega

theorem small_string {H : Type} {l : List (DataW H)} (hk : Rows.uptoSmall H l = true) {s : ByteArray} (hd : DataW.lit (.string s.data.toList) ∈ l) : s.size ≤ 1048576 := by
  have h1 := bulk_part hd
  have h2 := bulk_bound hk
  simp only [Rows.uptoBulk] at h1
  have e : s.data.toList.length = s.size := by rw [Array.length_toList]; rfl
  omega

theorem page_upto {H : Type} {l : List (DataW H)} (hk : Rows.uptoSmall H l = true) {d : DataW H} (hd : d ∈ l) :
    ∀ y0 y1 y2 y3 elems spare, d = .agg [y0, y1, y2, y3, .slice elems spare] → elems.length + spare.length ≤ 1048576 ∧ ∀ y ∈ elems, ∀ k r, y = .agg (.lit (.string k) :: r) → k.length ≤ 140737488351232 := by
  intro y0 y1 y2 y3 elems spare e
  subst e
  have h1 := bulk_part hd
  have h2 := bulk_bound hk
  have h3 := bulk_length elems
  have h4 := bulk_length spare
  simp only [Rows.uptoBulk, Rows.uptoBulkAll] at h1
  refine ⟨by omega, fun y hy k r hy2 => ?_⟩
  have h5 := bulk_part hy
  rw [hy2] at h5
  simp only [Rows.uptoBulk, Rows.uptoBulkAll] at h5
  omega

end Go.Proofs.YthpilennljpamaaGreat

namespace Go.Proofs.YthpilennljpamaaGreat
open Go.RowKit
set_option linter.unusedVariables false

theorem delta_upto {H : Type} {l : List (DataW H)} (hk : Rows.uptoSmall H l = true) {d : DataW H} (hd : d ∈ l) :
    ∀ y0 y1 y2 y3 z0 z1 z2 z3 elems spare, d = .agg [y0, y1, y2, y3, .agg [z0, z1, z2, z3, .slice elems spare]] → elems.length + spare.length ≤ 1048576 ∧ ∀ y ∈ elems, ∀ k r, y = .agg (.lit (.string k) :: r) → k.length ≤ 140737488351232 := by
  intro y0 y1 y2 y3 z0 z1 z2 z3 elems spare e
  subst e
  have h1 := bulk_part hd
  have h2 := bulk_bound hk
  have h3 := bulk_length elems
  have h4 := bulk_length spare
  simp only [Rows.uptoBulk, Rows.uptoBulkAll] at h1
  refine ⟨by omega, fun y hy k r hy2 => ?_⟩
  have h5 := bulk_part hy
  rw [hy2] at h5
  simp only [Rows.uptoBulk, Rows.uptoBulkAll] at h5
  omega

end Go.Proofs.YthpilennljpamaaGreat

namespace Go.Proofs.YthpilennljpamaaGreat
open Go.ChangeShapes Go.WideShapes Go.ChangeAt Go.RowKit
open Go.ChangeMaps (open_string shut_string)
set_option linter.unusedVariables false
set_option maxRecDepth 100000

/-- Deltas that came in. -/
structure InDs (w : World) (p : Option Addr) (len cap : Nat) (L : List Dm) : Prop where
  lenq : L.length = len
  room : len ≤ 1048576
  le : len ≤ cap
  nil : p = none → len = 0 ∧ cap = 0
  des : Des w p L
  each : ∀ m ∈ L, m.n ≤ 1048576

theorem delta_bulk {H : Type} {d : DataW H} (hk : Rows.uptoBulk d ≤ 1048576) :
    ∀ y0 y1 y2 y3 z0 z1 z2 z3 elems spare, d = .agg [y0, y1, y2, y3, .agg [z0, z1, z2, z3, .slice elems spare]] → elems.length + spare.length ≤ 1048576 ∧ ∀ y ∈ elems, ∀ k r, y = .agg (.lit (.string k) :: r) → k.length ≤ 140737488351232 := by
  intro y0 y1 y2 y3 z0 z1 z2 z3 elems spare e
  subst e
  have h3 := bulk_length elems
  have h4 := bulk_length spare
  simp only [Rows.uptoBulk, Rows.uptoBulkAll] at hk
  refine ⟨by omega, fun y hy k r hy2 => ?_⟩
  have h5 := bulk_part hy
  rw [hy2] at h5
  simp only [Rows.uptoBulk, Rows.uptoBulkAll] at h5
  omega

theorem in_deltas {H : Type} {enc : TypeId × Value → H} {W : World} {a : Option Addr} {len cap : Nat} {d : DataW H} {p : List MemPlace} {ls : List (DataW H)} (hk : Rows.uptoSmall H ls = true) (hd : d ∈ ls)
    (h : DataW.Trod enc Tryz.prog W 0 (fun _ => true) true 25 (.slice a len cap) d p) : ∃ L, InDs W a len cap L := by
  obtain ⟨fuel, hf⟩ := h
  rcases Go.Deep.open_slice Tryz.underlying25 hf with ⟨hcs, _⟩ | ⟨x, l, c, m, n, D, Pl, hcs, _, hl, hm, hmm, hx, hall⟩
  · simp [Value.cells] at hcs
    obtain ⟨rfl, rfl, rfl⟩ := hcs
    exact ⟨[], rfl, Nat.zero_le _, Nat.le_refl _, fun _ => ⟨rfl, rfl⟩, Des.nil _ _, by simp⟩
  · simp [Value.cells] at hcs
    obtain ⟨rfl, rfl, rfl⟩ := hcs
    simp only [if_true] at hmm
    subst hmm
    have ek : Tryz.prog.cellsOf 32 = 12 := by kernel_rfl
    rw [ek] at hall
    simp only [Prod.mk.injEq] at hx
    have hroom := small_slice hk hd _ _ hx.1
    simp at hroom
    have hbulk : ∀ i, i < len → Rows.uptoBulk (D i) ≤ 1048576 := by
      intro i hi
      have h1 := bulk_part hd
      have h2 := bulk_bound hk
      rw [hx.1] at h1
      have h3 : D i ∈ (List.range len).map D := List.mem_map.2 ⟨i, List.mem_range.2 hi, rfl⟩
      have h4 := bulk_part h3
      simp only [Rows.uptoBulk] at h1
      omega
    have hin : Inhabited Dm := ⟨⟨Dl.zero, none, 0, 0⟩⟩
    obtain ⟨G, hG⟩ := Go.Deep.choose_lt (n := len) (α := Dm) (p := fun i g => W.cells? 0 (x.add (i * 12)) 12 = some g.cells ∧ g.Ok W ∧ g.n ≤ 1048576) (fun i hi => by
      obtain ⟨cs, h1, h2⟩ := hall i (by omega)
      obtain ⟨dd, pa, pn, pc, rfl, hr⟩ := in_delta (M := 1048576) h2 (delta_bulk (hbulk i hi))
      refine ⟨⟨dd, pa, pn, pc⟩, h1, ⟨hr.right.lenq, hr.right.ens, hr.right.nil, hr.right.le, ?_⟩, ?_⟩
      · exact Nat.le_trans hr.right.room (by decide)
      · exact hr.right.room)
    refine ⟨(List.range len).map G, by simp, by omega, hl, (fun h => by cases h), fun hpos => ?_, ?_⟩
    · have hpos' : 0 < len := by simpa using hpos
      have h0 := rcells_at (hG 0 hpos').1 0 _ rfl
      obtain ⟨b, off, spot⟩ := x
      have hspot : spot = none := by
        have := World.cell?_spot h0
        simpa [Addr.add] using this
      subst hspot
      refine ⟨b, off, rfl, fun i g hi => ?_⟩
      have hil : i < len := by
        have := (List.getElem?_eq_some_iff.1 hi).1
        simpa using this
      have hg : g = G i := by simpa [hil] using hi.symm
      subst hg
      refine ⟨fun j v hv => ?_, (hG i hil).2.1⟩
      have := rcells_at (hG i hil).1 j v hv
      rw [Addr.add_lit, Addr.add_lit] at this
      exact this
    · intro g hg
      obtain ⟨i, hi, rfl⟩ := List.mem_map.1 hg
      exact (hG i (List.mem_range.1 hi)).2.2

end Go.Proofs.YthpilennljpamaaGreat

namespace Go.Proofs.YthpilennljpamaaGreat
open Go.RowKit Go.Sort
set_option linter.unusedVariables false
set_option maxRecDepth 100000

set_option maxHeartbeats 1000000 in
theorem rclone_any (leaf : Bool) (lo hi : ByteArray) (r : Int) (p : Option Addr) (len cap : Nat) (l : List En) (w : World) (hlen : l.length = len) (hx : Ens w p l) (hl : len ≤ 3518437208782) (hp : p = none → len = 0 ∧ cap = 0) :
    Calls Tryz.prog 9 #[pgv leaf lo hi r p len cap] w fun e w' => ∃ p' cap', e = .returned (pgv leaf lo hi r p' len cap') ∧ OwnE w' w.heap.size (.slice p' len cap') l ∧ Below w.heap.size w w' := by
  obtain ⟨w0, hw0⟩ : ∃ w0, (w.alloc (.cells (pgc leaf lo hi r p len cap) 24)).alloc (.cells #[.bool false, .string ⟨#[]⟩, .string ⟨#[]⟩, .int .i64 0, .slice none 0 0] 24) = w0 := ⟨_, rfl⟩
  have HB0 : Hid (Below w.heap.size w w0) := by rw [← hw0]; exact ((Below.refl _ _).alloc (Nat.le_refl _) _).alloc (by simp) _
  have HK0 : Hid (Bk w0 w.heap.size 24 (pgc leaf lo hi r p len cap)) := by rw [← hw0]; exact (Bk.new _ _ _).alloc _
  have HR0 : Hid (Bk w0 (w.heap.size + 1) 24 #[.bool false, .string ⟨#[]⟩, .string ⟨#[]⟩, .int .i64 0, .slice none 0 0]) := by rw [← hw0]; exact Bk.new1 _ _ _ _
  have HL : Hid (l.length = len) := hlen
  obtain ⟨v1, w1, hr, ho, hg, hor⟩ := run_appE w0 w0.heap.size 22 (.slice none 0 0) [] l p len cap hlen (hx.below HB0.out (Nat.le_refl _)) hp (OwnE.nil _ _) (by simp; omega) (Nat.le_refl _)
  have hb : Below w0.heap.size w0 w1 := (Below.refl _ _).grown hg (Nat.le_refl _) (fun k hk => by cases hk)
  rw [List.nil_append] at ho
  obtain ⟨q, c, rfl, -, -⟩ := ho.ens
  have HR : Hid _ := hr
  have HO : Hid (OwnE w1 w0.heap.size (.slice q l.length c) l) := ho
  have HB1 : Hid (Below w.heap.size w w1) := HB0.out.trans (hb.mono HB0.out.size)
  have HK1 : Hid (Bk w1 w.heap.size 24 (pgc leaf lo hi r p len cap)) := HK0.out.below hb HK0.out.lt
  have HR1 : Hid (Bk w1 (w.heap.size + 1) 24 #[.bool false, .string ⟨#[]⟩, .string ⟨#[]⟩, .int .i64 0, .slice none 0 0]) := HR0.out.below hb HR0.out.lt
  have HS0 : Hid (w.heap.size + 1 < w0.heap.size) := HR0.out.lt
  rw [hlen] at HO HR
  clear ho hb hr hg hor hx hlen hp
  have k4 : w0.cell? ⟨w.heap.size, 4, none⟩ = some (.slice p len cap) := HK0.out.cell 4
  have a0 : w1.cell? ⟨w.heap.size, 0, none⟩ = some (.bool leaf) := HK1.out.cell 0
  have a1 : w1.cell? ⟨w.heap.size, 1, none⟩ = some (.string lo) := HK1.out.cell 1
  have a2 : w1.cell? ⟨w.heap.size, 2, none⟩ = some (.string hi) := HK1.out.cell 2
  have a3 : w1.cell? ⟨w.heap.size, 3, none⟩ = some (.int .i64 r) := HK1.out.cell 3
  have a4 : w1.cell? ⟨w.heap.size, 4, none⟩ = some (.slice p len cap) := HK1.out.cell 4
  have f4 : w1.frozen? ⟨w.heap.size, 4, none⟩ = false := HK1.out.frozen 4
  have b0 : w1.cell? ⟨w.heap.size + 1, 0, none⟩ = some (.bool false) := HR1.out.cell 0
  have b1 : w1.cell? ⟨w.heap.size + 1, 1, none⟩ = some (.string ⟨#[]⟩) := HR1.out.cell 1
  have b2 : w1.cell? ⟨w.heap.size + 1, 2, none⟩ = some (.string ⟨#[]⟩) := HR1.out.cell 2
  have b3 : w1.cell? ⟨w.heap.size + 1, 3, none⟩ = some (.int .i64 0) := HR1.out.cell 3
  have b4 : w1.cell? ⟨w.heap.size + 1, 4, none⟩ = some (.slice none 0 0) := HR1.out.cell 4
  have g0 : w1.frozen? ⟨w.heap.size + 1, 0, none⟩ = false := HR1.out.frozen 0
  have g1 : w1.frozen? ⟨w.heap.size + 1, 1, none⟩ = false := HR1.out.frozen 1
  have g2 : w1.frozen? ⟨w.heap.size + 1, 2, none⟩ = false := HR1.out.frozen 2
  have g3 : w1.frozen? ⟨w.heap.size + 1, 3, none⟩ = false := HR1.out.frozen 3
  have g4 : w1.frozen? ⟨w.heap.size + 1, 4, none⟩ = false := HR1.out.frozen 4
  go_enter Tryz.func9, Tryz.ntmps9
  go_wp2_with (at_builtin; refine Lib.wpList_append_run _ rfl _ _ _ _ rfl _ _ rfl rfl _ _ HR.out ?_)
  refine bodyPost_ret (results_one (cs := [.bool leaf, .string lo, .string hi, .int .i64 r, .slice q len c]) rfl rfl pg_agg pg_size rfl (((HR1.out.other (p := ⟨w.heap.size, 4, none⟩) (by simp) _).five _ _ _ _ _))) rfl ?_
  have ht : Tn [w.heap.size, w.heap.size + 1] w1 (put5 (w1.setCell ⟨w.heap.size, 4, none⟩ (.slice q len c)) (w.heap.size + 1) (.bool leaf) (.string lo) (.string hi) (.int .i64 r) (.slice q len c)) :=
    ((Tn.refl _ _).setCell (p := ⟨w.heap.size, 4, none⟩) (.inl (by simp)) _).five (.inl (by simp)) _ _ _ _ _
  have hs0 := HS0.out
  refine ⟨q, c, rfl, (HO.out.tn ht (by simp; omega)).mono HB0.out.size, HB1.out.trans (ht.below HB1.out.size (by simp))⟩

end Go.Proofs.YthpilennljpamaaGreat

namespace Go.Proofs.YthpilennljpamaaGreat
open Go.RowKit
set_option linter.unusedVariables false
set_option maxRecDepth 100000

set_option maxHeartbeats 4000000 in
theorem rdclone_any (a : De) (ap : Option Addr) (an ac : Nat) (w : World) (hna : a.rt.l.length = an) (ha : Ens w ap a.rt.l) (hl : an ≤ 3518437208782) (hp : ap = none → an = 0 ∧ ac = 0) :
    Calls Tryz.prog 10 #[dlv a.k a.e a.key a.pg a.rt.leaf a.rt.lo a.rt.hi a.rt.r ap an ac] w fun r w' => ∃ q qc, r = .returned (dlv a.k a.e a.key a.pg a.rt.leaf a.rt.lo a.rt.hi a.rt.r q an qc) ∧ OwnE w' w.heap.size (.slice q an qc) a.rt.l ∧ Below w.heap.size w w' := by
  have hq := fun (W : World) (h : Below w.heap.size w W) => rclone_any a.rt.leaf a.rt.lo a.rt.hi a.rt.r ap an ac a.rt.l W hna (ha.below h (Nat.le_refl _)) hl hp
  have HQ : Hid _ := hq
  clear hq ha hna hp
  obtain ⟨ak, ⟨aek, aes, aeg, aec⟩, akey, apg, ⟨aleaf, alo, ahi, ar, al⟩⟩ := a
  simp only at *
  obtain ⟨w0, hw0⟩ : ∃ w0, (w.alloc (.cells #[.int .i64 ak, .string aek, .int .i64 aes, .int .i64 aeg, .int .i64 aec, .string akey, .int .i64 apg, .bool aleaf, .string alo, .string ahi, .int .i64 ar, .slice ap an ac] 32)).alloc (.cells #[.int .i64 0, .string ⟨#[]⟩, .int .i64 0, .int .i64 0, .int .i64 0, .string ⟨#[]⟩, .int .i64 0, .bool false, .string ⟨#[]⟩, .string ⟨#[]⟩, .int .i64 0, .slice none 0 0] 32) = w0 := ⟨_, rfl⟩
  have HB0 : Hid (Below w.heap.size w w0) := by rw [← hw0]; exact ((Below.refl _ _).alloc (Nat.le_refl _) _).alloc (by simp) _
  have HK0 : Hid (Bk w0 w.heap.size 32 #[.int .i64 ak, .string aek, .int .i64 aes, .int .i64 aeg, .int .i64 aec, .string akey, .int .i64 apg, .bool aleaf, .string alo, .string ahi, .int .i64 ar, .slice ap an ac]) := by rw [← hw0]; exact (Bk.new _ _ _).alloc _
  have HR0 : Hid (Bk w0 (w.heap.size + 1) 32 #[.int .i64 0, .string ⟨#[]⟩, .int .i64 0, .int .i64 0, .int .i64 0, .string ⟨#[]⟩, .int .i64 0, .bool false, .string ⟨#[]⟩, .string ⟨#[]⟩, .int .i64 0, .slice none 0 0]) := by rw [← hw0]; exact Bk.new1 _ _ _ _
  have x0 : w0.cell? ⟨w.heap.size, 0, none⟩ = some (.int .i64 ak) := HK0.out.cell 0
  have x1 : w0.cell? ⟨w.heap.size, 1, none⟩ = some (.string aek) := HK0.out.cell 1
  have x2 : w0.cell? ⟨w.heap.size, 2, none⟩ = some (.int .i64 aes) := HK0.out.cell 2
  have x3 : w0.cell? ⟨w.heap.size, 3, none⟩ = some (.int .i64 aeg) := HK0.out.cell 3
  have x4 : w0.cell? ⟨w.heap.size, 4, none⟩ = some (.int .i64 aec) := HK0.out.cell 4
  have x5 : w0.cell? ⟨w.heap.size, 5, none⟩ = some (.string akey) := HK0.out.cell 5
  have x6 : w0.cell? ⟨w.heap.size, 6, none⟩ = some (.int .i64 apg) := HK0.out.cell 6
  have x7 : w0.cell? ⟨w.heap.size, 7, none⟩ = some (.bool aleaf) := HK0.out.cell 7
  have x8 : w0.cell? ⟨w.heap.size, 8, none⟩ = some (.string alo) := HK0.out.cell 8
  have x9 : w0.cell? ⟨w.heap.size, 9, none⟩ = some (.string ahi) := HK0.out.cell 9
  have x10 : w0.cell? ⟨w.heap.size, 10, none⟩ = some (.int .i64 ar) := HK0.out.cell 10
  have x11 : w0.cell? ⟨w.heap.size, 11, none⟩ = some (.slice ap an ac) := HK0.out.cell 11
  go_enter Tryz.func10, Tryz.ntmps10
  go_wp2_with fail
  clear hw0
  refine (HQ.out _ HB0.out).mono ?_
  rintro e w1 ⟨q, qc, rfl, ho, hb1⟩
  have HO1 : Hid (OwnE w1 w0.heap.size (.slice q an qc) al) := ho
  have HB1 : Hid (Below w.heap.size w w1) := HB0.out.trans (hb1.mono HB0.out.size)
  have HK1 : Hid (Bk w1 w.heap.size 32 #[.int .i64 ak, .string aek, .int .i64 aes, .int .i64 aeg, .int .i64 aec, .string akey, .int .i64 apg, .bool aleaf, .string alo, .string ahi, .int .i64 ar, .slice ap an ac]) := HK0.out.below hb1 HK0.out.lt
  have HR1 : Hid (Bk w1 (w.heap.size + 1) 32 #[.int .i64 0, .string ⟨#[]⟩, .int .i64 0, .int .i64 0, .int .i64 0, .string ⟨#[]⟩, .int .i64 0, .bool false, .string ⟨#[]⟩, .string ⟨#[]⟩, .int .i64 0, .slice none 0 0]) := HR0.out.below hb1 HR0.out.lt
  have HS0 : Hid (w.heap.size + 1 < w0.heap.size) := HR0.out.lt
  clear hb1 ho x0 x1 x2 x3 x4 x5 x6 x7 x8 x9 x10 x11
  have x0 : w1.cell? ⟨w.heap.size, 0, none⟩ = some (.int .i64 ak) := HK1.out.cell 0
  have xf0 : w1.frozen? ⟨w.heap.size, 0, none⟩ = false := HK1.out.frozen 0
  have x1 : w1.cell? ⟨w.heap.size, 1, none⟩ = some (.string aek) := HK1.out.cell 1
  have xf1 : w1.frozen? ⟨w.heap.size, 1, none⟩ = false := HK1.out.frozen 1
  have x2 : w1.cell? ⟨w.heap.size, 2, none⟩ = some (.int .i64 aes) := HK1.out.cell 2
  have xf2 : w1.frozen? ⟨w.heap.size, 2, none⟩ = false := HK1.out.frozen 2
  have x3 : w1.cell? ⟨w.heap.size, 3, none⟩ = some (.int .i64 aeg) := HK1.out.cell 3
  have xf3 : w1.frozen? ⟨w.heap.size, 3, none⟩ = false := HK1.out.frozen 3
  have x4 : w1.cell? ⟨w.heap.size, 4, none⟩ = some (.int .i64 aec) := HK1.out.cell 4
  have xf4 : w1.frozen? ⟨w.heap.size, 4, none⟩ = false := HK1.out.frozen 4
  have x5 : w1.cell? ⟨w.heap.size, 5, none⟩ = some (.string akey) := HK1.out.cell 5
  have xf5 : w1.frozen? ⟨w.heap.size, 5, none⟩ = false := HK1.out.frozen 5
  have x6 : w1.cell? ⟨w.heap.size, 6, none⟩ = some (.int .i64 apg) := HK1.out.cell 6
  have xf6 : w1.frozen? ⟨w.heap.size, 6, none⟩ = false := HK1.out.frozen 6
  have x7 : w1.cell? ⟨w.heap.size, 7, none⟩ = some (.bool aleaf) := HK1.out.cell 7
  have xf7 : w1.frozen? ⟨w.heap.size, 7, none⟩ = false := HK1.out.frozen 7
  have x8 : w1.cell? ⟨w.heap.size, 8, none⟩ = some (.string alo) := HK1.out.cell 8
  have xf8 : w1.frozen? ⟨w.heap.size, 8, none⟩ = false := HK1.out.frozen 8
  have x9 : w1.cell? ⟨w.heap.size, 9, none⟩ = some (.string ahi) := HK1.out.cell 9
  have xf9 : w1.frozen? ⟨w.heap.size, 9, none⟩ = false := HK1.out.frozen 9
  have x10 : w1.cell? ⟨w.heap.size, 10, none⟩ = some (.int .i64 ar) := HK1.out.cell 10
  have xf10 : w1.frozen? ⟨w.heap.size, 10, none⟩ = false := HK1.out.frozen 10
  have x11 : w1.cell? ⟨w.heap.size, 11, none⟩ = some (.slice ap an ac) := HK1.out.cell 11
  have xf11 : w1.frozen? ⟨w.heap.size, 11, none⟩ = false := HK1.out.frozen 11
  have y0 : w1.cell? ⟨w.heap.size + 1, 0, none⟩ = some (.int .i64 0) := HR1.out.cell 0
  have yf0 : w1.frozen? ⟨w.heap.size + 1, 0, none⟩ = false := HR1.out.frozen 0
  have y1 : w1.cell? ⟨w.heap.size + 1, 1, none⟩ = some (.string ⟨#[]⟩) := HR1.out.cell 1
  have yf1 : w1.frozen? ⟨w.heap.size + 1, 1, none⟩ = false := HR1.out.frozen 1
  have y2 : w1.cell? ⟨w.heap.size + 1, 2, none⟩ = some (.int .i64 0) := HR1.out.cell 2
  have yf2 : w1.frozen? ⟨w.heap.size + 1, 2, none⟩ = false := HR1.out.frozen 2
  have y3 : w1.cell? ⟨w.heap.size + 1, 3, none⟩ = some (.int .i64 0) := HR1.out.cell 3
  have yf3 : w1.frozen? ⟨w.heap.size + 1, 3, none⟩ = false := HR1.out.frozen 3
  have y4 : w1.cell? ⟨w.heap.size + 1, 4, none⟩ = some (.int .i64 0) := HR1.out.cell 4
  have yf4 : w1.frozen? ⟨w.heap.size + 1, 4, none⟩ = false := HR1.out.frozen 4
  have y5 : w1.cell? ⟨w.heap.size + 1, 5, none⟩ = some (.string ⟨#[]⟩) := HR1.out.cell 5
  have yf5 : w1.frozen? ⟨w.heap.size + 1, 5, none⟩ = false := HR1.out.frozen 5
  have y6 : w1.cell? ⟨w.heap.size + 1, 6, none⟩ = some (.int .i64 0) := HR1.out.cell 6
  have yf6 : w1.frozen? ⟨w.heap.size + 1, 6, none⟩ = false := HR1.out.frozen 6
  have y7 : w1.cell? ⟨w.heap.size + 1, 7, none⟩ = some (.bool false) := HR1.out.cell 7
  have yf7 : w1.frozen? ⟨w.heap.size + 1, 7, none⟩ = false := HR1.out.frozen 7
  have y8 : w1.cell? ⟨w.heap.size + 1, 8, none⟩ = some (.string ⟨#[]⟩) := HR1.out.cell 8
  have yf8 : w1.frozen? ⟨w.heap.size + 1, 8, none⟩ = false := HR1.out.frozen 8
  have y9 : w1.cell? ⟨w.heap.size + 1, 9, none⟩ = some (.string ⟨#[]⟩) := HR1.out.cell 9
  have yf9 : w1.frozen? ⟨w.heap.size + 1, 9, none⟩ = false := HR1.out.frozen 9
  have y10 : w1.cell? ⟨w.heap.size + 1, 10, none⟩ = some (.int .i64 0) := HR1.out.cell 10
  have yf10 : w1.frozen? ⟨w.heap.size + 1, 10, none⟩ = false := HR1.out.frozen 10
  have y11 : w1.cell? ⟨w.heap.size + 1, 11, none⟩ = some (.slice none 0 0) := HR1.out.cell 11
  have yf11 : w1.frozen? ⟨w.heap.size + 1, 11, none⟩ = false := HR1.out.frozen 11
  go_wp2_with fail
  have k1 := HR1.out.fiveO2 (show w.heap.size + 1 ≠ w.heap.size by omega) (.bool aleaf) (.string alo) (.string ahi) (.int .i64 ar) (.slice q an qc)
  have hA := Bk.twelve k1 (.int .i64 ak) (.string aek) (.int .i64 aes) (.int .i64 aeg) (.int .i64 aec) (.string akey) (.int .i64 apg) (.bool aleaf) (.string alo) (.string ahi) (.int .i64 ar) (.slice q an qc)
  have ht : Tn [w.heap.size, w.heap.size + 1] w1 _ := ((Tn.refl _ _).five2 (R := w.heap.size) (.inl (by simp)) (.bool aleaf) (.string alo) (.string ahi) (.int .i64 ar) (.slice q an qc)).twelve (R := w.heap.size + 1) (.inl (by simp)) (.int .i64 ak) (.string aek) (.int .i64 aes) (.int .i64 aeg) (.int .i64 aec) (.string akey) (.int .i64 apg) (.bool aleaf) (.string alo) (.string ahi) (.int .i64 ar) (.slice q an qc)
  refine bodyPost_ret (results_one (cs := [.int .i64 ak, .string aek, .int .i64 aes, .int .i64 aeg, .int .i64 aec, .string akey, .int .i64 apg, .bool aleaf, .string alo, .string ahi, .int .i64 ar, .slice q an qc]) rfl rfl dl_agg dl_size rfl hA) rfl ?_
  refine ⟨q, qc, rfl, ?_, HB1.out.trans (ht.below HB1.out.size (by simp))⟩
  exact (HO1.out.tn ht (by have := HS0.out; simp; omega)).mono HB0.out.size


end Go.Proofs.YthpilennljpamaaGreat
