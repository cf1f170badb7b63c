/- Remove (the code's). -/
import Derived.Test.YtoehlgigidgfpaaGreatPgFe
import Derived.Test.YtoehlgigidgfpaaGreatPgDel
namespace Go.Proofs.YtoehlgigidgfpaaGreat
open Go.RowKit Go.Sort
set_option linter.unusedVariables false
set_option maxRecDepth 100000


namespace Pg
/-- A page without a key. -/
def remove (g : Pp) (key : ByteArray) : Pp × Int := if g.l.any (is key) then (⟨g.leaf, g.lo, g.hi, g.r, del g.l (g.l.findIdx (is key))⟩, 0) else (zero, 4)
end Pg

set_option maxHeartbeats 4000000 in
theorem remove_any (leaf : Bool) (lo hi : ByteArray) (r : Int) (p : Option Addr) (len cap : Nat) (l : List En) (key : ByteArray) (w : World) (hlen : l.length = len) (hx : Ens w p l) (hl : len ≤ 3518437208782) :
    Calls Tryz.prog 164 #[pgv leaf lo hi r p len cap, .string key] w fun e w' => ∃ v, e = .returned (.tuple #[v, .int .i64 (Pg.remove ⟨leaf, lo, hi, r, l⟩ key).2]) ∧ PgAt w' w.heap.size v (Pg.remove ⟨leaf, lo, hi, r, l⟩ key).1 ∧ Below w.heap.size w w' := by
  obtain ⟨w0, hw0⟩ : ∃ w0, (w.alloc (.cells #[.bool leaf, .string lo, .string hi, .int .i64 r, .slice p len cap] 29)).alloc (.cells zc 29) = w0 := ⟨_, rfl⟩
  have HB0 : Hid (Below w.heap.size w w0) := by rw [← hw0]; exact ((Below.refl _ _).alloc (Nat.le_refl _) _).alloc (by simp) _
  have HK0 : Hid (Bk w0 w.heap.size 29 #[.bool leaf, .string lo, .string hi, .int .i64 r, .slice p len cap]) := by rw [← hw0]; exact (Bk.new _ _ _).alloc _
  have HR0 : Hid (Bk w0 (w.heap.size + 1) 29 zc) := by rw [← hw0]; exact Bk.new1 _ _ _ _
  have HX : Hid (Ens w p l) := hx
  have HL : Hid (l.length = len) := hlen
  clear hx hlen
  obtain ⟨out, hout⟩ : ∃ out, Pg.remove ⟨leaf, lo, hi, r, l⟩ key = out := ⟨_, rfl⟩
  rw [hout]
  have HO : Hid (out = if l.any (Pg.is key) then (⟨leaf, lo, hi, r, Pg.del l (l.findIdx (Pg.is key))⟩, 0) else (Pg.zero, 4)) := hout.symm
  clear hout
  have a4 : w0.cell? ⟨w.heap.size, 4, none⟩ = some (.slice p len cap) := HK0.out.cell 4
  go_enter Tryz.func164, Tryz.ntmps164
  go_wp2_with fail
  clear hw0 a4
  refine (withKey_any p len cap l key _ HL.out (HX.out.below HB0.out (Nat.le_refl _)) (by omega)).mono ?_
  rintro e w1 ⟨k, rfl, hk, hb1⟩
  have HB1 : Hid (Below w.heap.size w w1) := HB0.out.trans (hb1.mono HB0.out.size)
  have HK1 : Hid (Bk w1 w.heap.size 29 #[.bool leaf, .string lo, .string hi, .int .i64 r, .slice p len cap]) := HK0.out.below hb1 HK0.out.lt
  have HR1 : Hid (Bk w1 (w.heap.size + 1) 29 zc) := HR0.out.below hb1 HR0.out.lt
  cases hv : l.any (Pg.is key) with
  | false =>
    rw [hv] at HO
    have HQ : Hid (out = (Pg.zero, 4)) := HO.out
    clear hk hb1 hv HO
    have b0 : w1.cell? ⟨w.heap.size + 1, 0, none⟩ = some (.bool false) := HR1.out.cell 0
    have f0 : w1.frozen? ⟨w.heap.size + 1, 0, none⟩ = false := HR1.out.frozen 0
    have b1 : w1.cell? ⟨w.heap.size + 1, 1, none⟩ = some (.string ⟨#[]⟩) := HR1.out.cell 1
    have f1 : w1.frozen? ⟨w.heap.size + 1, 1, none⟩ = false := HR1.out.frozen 1
    have b2 : w1.cell? ⟨w.heap.size + 1, 2, none⟩ = some (.string ⟨#[]⟩) := HR1.out.cell 2
    have f2 : w1.frozen? ⟨w.heap.size + 1, 2, none⟩ = false := HR1.out.frozen 2
    have b3 : w1.cell? ⟨w.heap.size + 1, 3, none⟩ = some (.int .i64 0) := HR1.out.cell 3
    have f3 : w1.frozen? ⟨w.heap.size + 1, 3, none⟩ = false := HR1.out.frozen 3
    have b4 : w1.cell? ⟨w.heap.size + 1, 4, none⟩ = some (.slice none 0 0) := HR1.out.cell 4
    have f4 : w1.frozen? ⟨w.heap.size + 1, 4, none⟩ = false := HR1.out.frozen 4
    go_wp2
    obtain ⟨we, hwe⟩ : ∃ we, we = put5 w1 (w.heap.size + 1) (.bool false) (.string ⟨#[]⟩) (.string ⟨#[]⟩) (.int .i64 0) (.slice none 0 0) := ⟨_, rfl⟩
    have hA : Bk we (w.heap.size + 1) 29 #[.bool false, .string ⟨#[]⟩, .string ⟨#[]⟩, .int .i64 0, .slice none 0 0] := by rw [hwe]; exact Bk.five HR1.out _ _ _ _ _
    have ht : Tn [w.heap.size + 1] w1 we := by rw [hwe]; exact (Tn.refl _ _).five (.inl (by simp)) _ _ _ _ _
    unfold put5 at hwe
    rw [← hwe]
    clear hwe
    refine bodyPost_ret (results_two (cs := [.bool false, .string ⟨#[]⟩, .string ⟨#[]⟩, .int .i64 0, .slice none 0 0]) rfl rfl pg_agg pg_size rfl hA) rfl ?_
    rw [HQ.out]
    exact ⟨_, rfl, PgAt.zero _ _, HB1.out.trans (ht.below HB1.out.size (by simp; try omega))⟩
  | true =>
    rw [hv] at HO
    have hlt : l.findIdx (Pg.is key) < l.length := List.findIdx_lt_length_of_exists (by obtain ⟨x, h1, h2⟩ := List.any_eq_true.1 hv; exact ⟨x, h1, h2⟩)
    have hk2 := hk hv
    subst hk2
    obtain ⟨i, hi2⟩ : ∃ i, l.findIdx (Pg.is key) = i := ⟨_, rfl⟩
    rw [hi2] at HO hlt ⊢
    have HQ : Hid (out = (⟨leaf, lo, hi, r, Pg.del l i⟩, 0)) := HO.out
    rw [HL.out] at hlt
    obtain ⟨n, hn⟩ : ∃ n, len = n + 1 := ⟨len - 1, by omega⟩
    subst hn
    clear hk hb1 hv HO hi2
    have a0 : w1.cell? ⟨w.heap.size, 0, none⟩ = some (.bool leaf) := HK1.out.cell 0
    have a1 : w1.cell? ⟨w.heap.size, 1, none⟩ = some (.string lo) := HK1.out.cell 1
    have a2 : w1.cell? ⟨w.heap.size, 2, none⟩ = some (.string hi) := HK1.out.cell 2
    have a3 : w1.cell? ⟨w.heap.size, 3, none⟩ = some (.int .i64 r) := HK1.out.cell 3
    have a4 : w1.cell? ⟨w.heap.size, 4, none⟩ = some (.slice p (n + 1) cap) := HK1.out.cell 4
    go_wp2_with fail
    refine (pclone_any leaf lo hi r p (n + 1) cap l _ HL.out (HX.out.below HB1.out (Nat.le_refl _)) hl (fun hp => by subst hp; obtain ⟨_, _, _, he, _⟩ := HX.out.at (j := 0) (by have := HL.out; omega); cases he)).mono ?_
    rintro e w2 ⟨p2, c2, rfl, ho2, hb2⟩
    have HB2 : Hid (Below w.heap.size w w2) := HB1.out.trans (hb2.mono HB1.out.size)
    have HK2 : Hid (Bk w2 w.heap.size 29 #[.bool leaf, .string lo, .string hi, .int .i64 r, .slice p (n + 1) cap]) := HK1.out.below hb2 HK1.out.lt
    have HR2 : Hid (Bk w2 (w.heap.size + 1) 29 zc) := HR1.out.below hb2 HR1.out.lt
    have HLT : Hid (w.heap.size + 1 < w1.heap.size) := HR1.out.lt
    obtain ⟨w3, hw3⟩ : ∃ w3, put5 w2 w.heap.size (.bool leaf) (.string lo) (.string hi) (.int .i64 r) (.slice p2 (n + 1) c2) = w3 := ⟨_, rfl⟩
    have ht3 : Tn [w.heap.size] w2 w3 := by rw [← hw3]; exact (Tn.refl _ _).five (.inl (by simp)) _ _ _ _ _
    have HK3 : Hid (Bk w3 w.heap.size 29 #[.bool leaf, .string lo, .string hi, .int .i64 r, .slice p2 (n + 1) c2]) := by rw [← hw3]; exact Bk.five HK2.out _ _ _ _ _
    have HR3 : Hid (Bk w3 (w.heap.size + 1) 29 zc) := HR2.out.tn ht3 (by simp)
    have HB3 : Hid (Below w.heap.size w w3) := HB2.out.trans (ht3.below HB2.out.size (by simp))
    have HO3 : Hid (OwnE w3 w1.heap.size (.slice p2 (n + 1) c2) l) := ho2.tn ht3 (by have := HLT.out; intro x hx; simp at hx; omega)
    have hsz3 : w1.heap.size ≤ w3.heap.size := Nat.le_trans hb2.size ht3.size
    clear ho2 hb2 ht3 a0 a1 a2 a3 a4
    unfold put5 at hw3
    have a0 : w2.cell? ⟨w.heap.size, 0, none⟩ = some (.bool leaf) := HK2.out.cell 0
    have f0 : w2.frozen? ⟨w.heap.size, 0, none⟩ = false := HK2.out.frozen 0
    have a1 : w2.cell? ⟨w.heap.size, 1, none⟩ = some (.string lo) := HK2.out.cell 1
    have f1 : w2.frozen? ⟨w.heap.size, 1, none⟩ = false := HK2.out.frozen 1
    have a2 : w2.cell? ⟨w.heap.size, 2, none⟩ = some (.string hi) := HK2.out.cell 2
    have f2 : w2.frozen? ⟨w.heap.size, 2, none⟩ = false := HK2.out.frozen 2
    have a3 : w2.cell? ⟨w.heap.size, 3, none⟩ = some (.int .i64 r) := HK2.out.cell 3
    have f3 : w2.frozen? ⟨w.heap.size, 3, none⟩ = false := HK2.out.frozen 3
    have a4 : w2.cell? ⟨w.heap.size, 4, none⟩ = some (.slice p (n + 1) cap) := HK2.out.cell 4
    have f4 : w2.frozen? ⟨w.heap.size, 4, none⟩ = false := HK2.out.frozen 4
    have x4 : w3.cell? ⟨w.heap.size, 4, none⟩ = some (.slice p2 (n + 1) c2) := HK3.out.cell 4
    go_wp2_with fail
    try rw [hw3]
    clear hw3 a0 a1 a2 a3 a4 f0 f1 f2 f3 f4 x4
    refine (delete_any p2 n c2 l i w1.heap.size _ HL.out HO3.out (by omega) (by omega)).mono ?_
    rintro e w4 ⟨v4, rfl, ho4, hg4⟩
    have hb4 : Below w1.heap.size w3 w4 := (Below.refl _ _).grown hg4 hsz3 (fun k hk => (World.ownsRow.lt HO3.out k hk).1)
    have HK4 : Hid (Bk w4 w.heap.size 29 #[.bool leaf, .string lo, .string hi, .int .i64 r, .slice p2 (n + 1) c2]) := HK3.out.below hb4 (by have := HLT.out; omega)
    have HR4 : Hid (Bk w4 (w.heap.size + 1) 29 zc) := HR3.out.below hb4 HLT.out
    have HB4 : Hid (Below w.heap.size w w4) := HB3.out.trans (hb4.mono (by have := HLT.out; omega))
    obtain ⟨p4, c4, rfl, -, -⟩ := ho4.ens
    obtain ⟨n4, HN4⟩ : ∃ n4, Hid ((Pg.del l i).length = n4) := ⟨_, rfl⟩
    rw [HN4.out] at ho4 ⊢
    obtain ⟨w5, hw5⟩ : ∃ w5, w4.setCell ⟨w.heap.size, 4, none⟩ (.slice p4 n4 c4) = w5 := ⟨_, rfl⟩
    have ht5 : Tn [w.heap.size] w4 w5 := by rw [← hw5]; exact (Tn.refl _ _).setCell (.inl (by simp)) _
    have HK5 : Hid (Bk w5 w.heap.size 29 #[.bool leaf, .string lo, .string hi, .int .i64 r, .slice p4 n4 c4]) := by rw [← hw5]; exact (HK4.out.set 4 _)
    have HR5 : Hid (Bk w5 (w.heap.size + 1) 29 zc) := HR4.out.tn ht5 (by simp)
    have HB5 : Hid (Below w.heap.size w w5) := HB4.out.trans (ht5.below HB4.out.size (by simp))
    have HS5 : Hid (Seg w5 w1.heap.size p4 n4 c4 (Pg.del l i)) := ho4.seg.tn ht5 (by have := HLT.out; intro x hx; simp at hx; omega)
    have k4 : w4.cell? ⟨w.heap.size, 4, none⟩ = some (.slice p2 (n + 1) c2) := HK4.out.cell 4
    have h4 : w4.frozen? ⟨w.heap.size, 4, none⟩ = false := HK4.out.frozen 4
    clear ho4 hg4 hb4 ht5 hsz3
    have a0 : w5.cell? ⟨w.heap.size, 0, none⟩ = some (.bool leaf) := HK5.out.cell 0
    have a1 : w5.cell? ⟨w.heap.size, 1, none⟩ = some (.string lo) := HK5.out.cell 1
    have a2 : w5.cell? ⟨w.heap.size, 2, none⟩ = some (.string hi) := HK5.out.cell 2
    have a3 : w5.cell? ⟨w.heap.size, 3, none⟩ = some (.int .i64 r) := HK5.out.cell 3
    have a4 : w5.cell? ⟨w.heap.size, 4, none⟩ = some (.slice p4 n4 c4) := HK5.out.cell 4
    have b0 : w5.cell? ⟨w.heap.size + 1, 0, none⟩ = some (.bool false) := HR5.out.cell 0
    have f0 : w5.frozen? ⟨w.heap.size + 1, 0, none⟩ = false := HR5.out.frozen 0
    have b1 : w5.cell? ⟨w.heap.size + 1, 1, none⟩ = some (.string ⟨#[]⟩) := HR5.out.cell 1
    have f1 : w5.frozen? ⟨w.heap.size + 1, 1, none⟩ = false := HR5.out.frozen 1
    have b2 : w5.cell? ⟨w.heap.size + 1, 2, none⟩ = some (.string ⟨#[]⟩) := HR5.out.cell 2
    have f2 : w5.frozen? ⟨w.heap.size + 1, 2, none⟩ = false := HR5.out.frozen 2
    have b3 : w5.cell? ⟨w.heap.size + 1, 3, none⟩ = some (.int .i64 0) := HR5.out.cell 3
    have f3 : w5.frozen? ⟨w.heap.size + 1, 3, none⟩ = false := HR5.out.frozen 3
    have b4 : w5.cell? ⟨w.heap.size + 1, 4, none⟩ = some (.slice none 0 0) := HR5.out.cell 4
    have f4 : w5.frozen? ⟨w.heap.size + 1, 4, none⟩ = false := HR5.out.frozen 4
    go_wp2
    try rw [hw5]
    clear hw5
    obtain ⟨we, hwe⟩ : ∃ we, we = put5 w5 (w.heap.size + 1) (.bool leaf) (.string lo) (.string hi) (.int .i64 r) (.slice p4 n4 c4) := ⟨_, rfl⟩
    have hA : Bk we (w.heap.size + 1) 29 #[.bool leaf, .string lo, .string hi, .int .i64 r, .slice p4 n4 c4] := by rw [hwe]; exact Bk.five HR5.out _ _ _ _ _
    have ht : Tn [w.heap.size + 1] w5 we := by rw [hwe]; exact (Tn.refl _ _).five (.inl (by simp)) _ _ _ _ _
    unfold put5 at hwe
    rw [← hwe]
    clear hwe
    refine bodyPost_ret (results_two (cs := [.bool leaf, .string lo, .string hi, .int .i64 r, .slice p4 n4 c4]) rfl rfl pg_agg pg_size rfl hA) rfl ?_
    rw [HQ.out]
    have hsl := HS5.out.lenq
    have hltR := HLT.out
    refine ⟨_, rfl, ⟨p4, c4, by simp only [hsl], ?_⟩, HB5.out.trans (ht.below HB5.out.size (by simp; try omega))⟩
    simp only [hsl]
    exact (HS5.out.tn ht (by intro x hx; simp at hx; omega)).mono HB1.out.size

end Go.Proofs.YtoehlgigidgfpaaGreat
