/- Find, in entries that are in order (the code's). -/
import Derived.Test.YtoehlgigidgfpaaGreatPgF3
import Derived.Test.YtoehlgigidgfpaaGreatPgSq
namespace Go.Proofs.YtoehlgigidgfpaaGreat
open Go.RowKit Go.Sort
set_option linter.unusedVariables false
set_option maxRecDepth 100000

theorem results_ib {fn : Func} {t u : Tmp} {T1 T2 : TypeId} (h : fn.results = #[.cell t 3, .cell u 4]) {tmps : Array Value} {w : World} {b c : Nat} (ht : tmps.getD t undef = .pointer (some ⟨b, 0, none⟩)) (hu : tmps.getD u undef = .pointer (some ⟨c, 0, none⟩)) {i : Int} {x : Bool} (hk : Bk w b T1 #[.int .i64 i]) (hk2 : Bk w c T2 #[.bool x]) :
    (results fn tmps).run Tryz.prog w = .ok (.tuple #[.int .i64 i, .bool x]) w := by
  have c0 : w.cell? ⟨b, 0, none⟩ = some (.int .i64 i) := hk.cell 0
  have c1 : w.cell? ⟨c, 0, none⟩ = some (.bool x) := hk2.cell 0
  have hz : ∀ w : World, (loadVar 3 ⟨b, 0, none⟩).run Tryz.prog w = (load ⟨b, 0, none⟩).run Tryz.prog w := fun w => by kernel_rfl
  have hy : ∀ w : World, (loadVar 4 ⟨c, 0, none⟩).run Tryz.prog w = (load ⟨c, 0, none⟩).run Tryz.prog w := fun w => by kernel_rfl
  have ht' : tmps[t]?.getD undef = .pointer (some ⟨b, 0, none⟩) := by simpa using ht
  have hu' : tmps[u]?.getD undef = .pointer (some ⟨c, 0, none⟩) := by simpa using hu
  simp [results, h, ht', hu', asAddr, hz, hy, c0, c1]

theorem up1_any (key : ByteArray) (w : World) (B : Nat) (hf : Bk w B 9 #[.string key]) : TstK 175 #[.pointer (some ⟨B, 0, none⟩)] (fun k => Ky.lt key k) w := by
  intro W k hb
  have hf' := hf.below hb hf.lt
  have f0 : W.cell? ⟨B, 0, none⟩ = some (.string key) := hf'.cell 0
  have HE : Hid (Ky.lt key k = (!Op.bytesLess k.toList key.toList && !k.toList == key.toList)) := by rw [Hid, Ky.gtr_iff]; rfl
  clear hf hf' hb
  show Calls Tryz.prog 175 #[.string k, .pointer (some ⟨B, 0, none⟩)] W _
  go_enter Tryz.func175, Tryz.ntmps175
  go_wp2
  go_ret
  exact ⟨by rw [HE.out]; rfl, Below.refl _ _⟩

/-- How many entries are not above a key. -/
def Pg.upto (key : ByteArray) (l : List En) : Nat := l.findIdx fun e => Ky.lt key e.key

set_option maxHeartbeats 1000000 in
theorem lastUpTo_ord (p : Option Addr) (len cap : Nat) (l : List En) (key : ByteArray) (w : World) (hlen : l.length = len) (hx : Ens w p l) (hl : len ≤ 4398046511104) (ho : Pg.Ord l) :
    Calls Tryz.prog 159 #[.slice p len cap, .string key] w fun e w' => e = .returned (.tuple #[.int .i64 ((Pg.upto key l : Nat) - 1), .bool (decide (0 < Pg.upto key l))]) ∧ Below w.heap.size w w' := by
  have eg1 : ∀ args w, (callFunc 175 args).run Tryz.prog w = .ok (.enter 175 args) w := enters_of Tryz.func175 (by kernel_rfl) rfl
  obtain ⟨w0, hw0⟩ : ∃ w0, ((w.alloc (.cells #[.string key] 9)).alloc (.cells #[.int .i64 0] 3)).alloc (.cells #[.bool false] 4) = w0 := ⟨_, rfl⟩
  have HB0 : Hid (Below w.heap.size w w0) := by rw [← hw0]; exact (((Below.refl _ _).alloc (Nat.le_refl _) _).alloc (by simp) _).alloc (by simp; omega) _
  have HK0 : Hid (Bk w0 w.heap.size 9 #[.string key]) := by rw [← hw0]; exact ((Bk.new _ _ _).alloc _).alloc _
  have HI0 : Hid (Bk w0 (w.heap.size + 1) 3 #[.int .i64 0]) := by rw [← hw0]; exact (Bk.new1 _ _ _ _).alloc _
  have HJ0 : Hid (Bk w0 (w.heap.size + 1 + 1) 4 #[.bool false]) := by rw [← hw0]; exact Bk.new2 _ _ _ _ _
  have HX : Hid (Ens w p l) := hx
  have HL : Hid (l.length = len) := hlen
  have HO : Hid (Pg.Ord l) := ho
  clear hx hlen ho
  obtain ⟨v, HV⟩ : ∃ v : Nat, Hid (Pg.upto key l = v) := ⟨_, rfl⟩
  rw [HV.out]
  have HVL : Hid (v ≤ len) := by rw [Hid, ← HV.out, ← HL.out]; exact List.findIdx_le_length
  go_enter Tryz.func159, Tryz.ntmps159
  go_wp2_with fail
  refine (inOrder_any p len cap l _ HL.out (HX.out.below HB0.out (Nat.le_refl _)) hl).mono ?_
  rintro e w1 ⟨ro, rfl, hro, hb1⟩
  obtain rfl : ro = true := hro.2 HO.out
  have HB1 : Hid (Below w.heap.size w w1) := HB0.out.trans (hb1.mono HB0.out.size)
  have HK1 : Hid (Bk w1 w.heap.size 9 #[.string key]) := HK0.out.below hb1 HK0.out.lt
  have HI1 : Hid (Bk w1 (w.heap.size + 1) 3 #[.int .i64 0]) := HI0.out.below hb1 HI0.out.lt
  have HJ1 : Hid (Bk w1 (w.heap.size + 1 + 1) 4 #[.bool false]) := HJ0.out.below hb1 HJ0.out.lt
  clear hb1 hro HK0 HB0 HI0 HJ0 hw0
  have HX1 : Hid (Ens w1 p l) := HX.out.below HB1.out (Nat.le_refl _)
  go_wp2_with fail
  refine (first_any 175 _ (fun k => Ky.lt key k) eg1 p len cap l _ HL.out HX1.out hl (up1_any key w1 w.heap.size HK1.out) (fun a b h1 h2 => Ky.lt_of_le' h1 h2)).mono ?_
  rw [show (l.findIdx fun e => Ky.lt key e.key) = v from HV.out]
  rintro e w2 ⟨rfl, hb2⟩
  have HB2 : Hid (Below w.heap.size w w2) := HB1.out.trans (hb2.mono HB1.out.size)
  have HI2 : Hid (Bk w2 (w.heap.size + 1) 3 #[.int .i64 0]) := HI1.out.below hb2 HI1.out.lt
  have HJ2 : Hid (Bk w2 (w.heap.size + 1 + 1) 4 #[.bool false]) := HJ1.out.below hb2 HJ1.out.lt
  have i0 : w2.cell? ⟨w.heap.size + 1, 0, none⟩ = some (.int .i64 0) := HI2.out.cell 0
  have j0 : w2.cell? ⟨w.heap.size + 1 + 1, 0, none⟩ = some (.bool false) := HJ2.out.cell 0
  have i1 : w2.frozen? ⟨w.heap.size + 1, 0, none⟩ = false := HI2.out.frozen 0
  have j1 : w2.frozen? ⟨w.heap.size + 1 + 1, 0, none⟩ = false := HJ2.out.frozen 0
  have hvb : (v : Int) ≤ 4398046511104 := by have := HVL.out; omega
  clear hb2
  go_wp2
  obtain ⟨x, hx⟩ : ∃ x, decide ((0 : Int) < (v : Int)) = x := ⟨_, rfl⟩
  have hx2 : decide (0 < v) = x := by rw [← hx]; simp
  rw [hx2]
  try rw [hx]
  refine bodyPost_ret (results_ib (i := (v : Int) - 1) (x := x) rfl rfl rfl (((HI2.out.set 0 _).other (p := ⟨w.heap.size + 1 + 1, 0, none⟩) (by simp) _)) ((HJ2.out.other (p := ⟨w.heap.size + 1, 0, none⟩) (by simp) _).set 0 _)) rfl ?_
  have ht : Tn [w.heap.size + 1, w.heap.size + 1 + 1] w2 ((w2.setCell ⟨w.heap.size + 1, 0, none⟩ (.int .i64 ((v : Int) - 1))).setCell ⟨w.heap.size + 1 + 1, 0, none⟩ (.bool x)) := ((Tn.refl _ _).setCell (.inl (by simp)) _).setCell (.inl (by simp)) _
  exact ⟨rfl, HB2.out.trans (ht.below HB2.out.size (by simp; omega))⟩

end Go.Proofs.YtoehlgigidgfpaaGreat
