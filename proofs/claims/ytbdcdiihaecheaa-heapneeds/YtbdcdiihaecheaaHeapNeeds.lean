/- A cell that is pruned at a mark tells at the mark and above what was put into it, but that a deletion may be told as nothing. -/
import Derived.Test.YtbdcdiihaecheaaHeapNeedsA
import Derived.Test.YtbdcdiihaecheaaMem
import Derived.Handy
import Derived.ProofKit
import Derived.OpenShut
import Derived.ShutString
import Derived.ChangeOld
import Derived.SizedLaws
import Derived.JoinedCond
import Derived.Deep.Slices
import Derived.Deep.Grids
import Derived.Test.YtbdcdiihaecheaaVsC
namespace Go.Proofs.Ytbdcdiihaecheaa
open Go.RowKit
set_option linter.unusedVariables false
set_option maxRecDepth 100000
set_option linter.unusedSectionVars false
variable [Inhabited Cl] [Inhabited Ln]

variable {m : Nat} {w w1 w2 w' : World} {H cB vB eB : Nat} {cb vb eb : List Nat} {h h' : Hp} {av L L' : List Nat}

/-- A chain that is cut behind k more; the rest waits. -/
def Hp.pruned (h : Hp) (s g : Int) (l : List Ln) (k : Nat) (x : Ln) : Hp := (h.setV (nextS s l k).toNat { x with s := 0, g := 0 }).wait 3 ((hds s g l).drop (k + 1))

theorem own_more {α : Type} {cells : α → List Value} {k : Nat} (K : Knd cells k) {t : TypeId} {W : World} {base : Nat} {v : Value} {l : List α} (h : Own cells k t W base v l) (h0 : 0 < l.length) :
    ∃ b c, v = .slice (some ⟨b, 0, none⟩) l.length c ∧ Els cells k W (some ⟨b, 0, none⟩) l ∧ l.length ≤ c ∧ base ≤ b ∧ b < W.heap.size := by
  obtain ⟨p, c, hv, he, -, hle⟩ := h.els K
  rcases h.2 with ⟨hv', hn⟩ | ⟨g, cap, cur, hv', -⟩
  · omega
  · rw [hv] at hv'
    cases hv'
    have hb := h.blk (b := g) (by rw [hv]; rfl)
    exact ⟨g, c, hv, he, hle, hb.1, hb.2⟩

set_option maxHeartbeats 2000000 in
theorem prune_cut (hh : Hpn m w H cB vB eB h av) (hS hG mark : Int) (hg : h.c.Good hS hG) (l : List Ln) (hc : Chn h.v (slAt h.c.us hS.toNat).val.s (slAt h.c.us hS.toNat).val.g l) (hl : l.length ≤ 65536) (hne : 1 ≤ (slAt h.c.us hS.toNat).val.g) (hcd : (slAt h.c.us hS.toNat).val.closed = false)
    (k : Nat) (x : Ln) (hx : l[k]? = some x) (hk : (Vr.prune mark (l.map Ln.ver)).kept = (l.map Ln.ver).take (k + 1)) (hcu : h.e.cur.length ≤ 3400000000000) :
    Calls Try.prog 14 #[.pointer (some ⟨H, 0, none⟩), .agg #[.int .i64 hS, .int .i64 hG], .int .i64 mark] w fun e w' => e = .returned (.tuple #[.int .i64 ((Vr.prune mark (l.map Ln.ver)).rest.length : Int), .bool false, .int .i64 0]) ∧ AftH m w w' H cB vB eB (h.pruned (slAt h.c.us hS.toNat).val.s (slAt h.c.us hS.toNat).val.g l k x) av := by
  obtain ⟨z, hz⟩ : ∃ z, (Vr.prune mark (l.map Ln.ver)).kept.length = z := ⟨_, rfl⟩
  obtain ⟨r, hr⟩ : ∃ r, (Vr.prune mark (l.map Ln.ver)).rest.length = r := ⟨_, rfl⟩
  rw [hr]
  obtain ⟨w2, hw2, hz2, hk1⟩ : ∃ w2, w.alloc (.cells #[.int .i64 hS, .int .i64 hG] 36) = w2 ∧ w2.heap.size = w.heap.size + 1 ∧ Bk w2 w.heap.size 36 #[.int .i64 hS, .int .i64 hG] := ⟨_, rfl, by simp, Bk.new _ _ _⟩
  have t2 : Tn [] w w2 := by rw [← hw2]; exact (Tn.refl _ _).alloc _
  have K2 : MidH m w [w.heap.size] w2 H cB vB eB h av := (MidH.start hh).new t2 (by simp) (by simp; omega)
  have HK2 : Hid (MidH m w [w.heap.size] w2 H cB vB eB h av) := K2
  have HA2 : Hid (Bk w2 w.heap.size 36 #[.int .i64 hS, .int .i64 hG]) := hk1
  have a0 : w2.cell? ⟨w.heap.size, 0, none⟩ = some (.int .i64 hS) := hk1.cell 0
  have a1 : w2.cell? ⟨w.heap.size, 1, none⟩ = some (.int .i64 hG) := hk1.cell 1
  obtain ⟨cl, hcl⟩ : ∃ cl, (slAt h.c.us hS.toNat).val = cl := ⟨_, rfl⟩
  have hlk := hlook_good K2.1 hS hG hg
  rw [hcl] at hlk hc hne hcd ⊢
  obtain ⟨c1, c2, c3, c4⟩ := cl
  obtain rfl : c4 = false := hcd
  have HLK : Hid (Calls Try.prog 43 #[.pointer (some ⟨H, 0, none⟩), .agg #[.int .i64 hS, .int .i64 hG]] w2 fun e w' => e = .returned (.tuple #[.agg #[.string c1, .int .i64 c2, .int .i64 c3, .bool false], .int .i64 0]) ∧ Below w2.heap.size w2 w') := hlk
  have HG : Hid (h.c.Good hS hG) := hg
  have HNE : Hid (decide (c2 = 0 ∧ c3 = 0) = false) := by unfold Hid; simp; intro _; have : 1 ≤ c3 := hne; omega
  clear hh t2 K2 hk1 hg hcl hlk hne
  go_enter Try.func14, Try.ntmps14
  go_wp2_with fail
  refine HLK.out.mono ?_
  rintro e w3 ⟨rfl, hb3⟩
  obtain ⟨wz, hwz, hzz, hkz⟩ : ∃ wz, w3.alloc (.cells #[.string ⟨#[]⟩, .int .i64 0, .int .i64 0, .bool false] 93) = wz ∧ wz.heap.size = w3.heap.size + 1 ∧ Bk wz w3.heap.size 93 #[.string ⟨#[]⟩, .int .i64 0, .int .i64 0, .bool false] := ⟨_, rfl, by simp, Bk.new _ _ _⟩
  have z0 : wz.cell? ⟨w3.heap.size, 0, none⟩ = some (.string ⟨#[]⟩) := hkz.cell 0
  have z1 : wz.cell? ⟨w3.heap.size, 1, none⟩ = some (.int .i64 0) := hkz.cell 1
  have z2 : wz.cell? ⟨w3.heap.size, 2, none⟩ = some (.int .i64 0) := hkz.cell 2
  have z3 : wz.cell? ⟨w3.heap.size, 3, none⟩ = some (.bool false) := hkz.cell 3
  have y0 : wz.frozen? ⟨w3.heap.size, 0, none⟩ = false := hkz.frozen 0
  have y1 : wz.frozen? ⟨w3.heap.size, 1, none⟩ = false := hkz.frozen 1
  have y2 : wz.frozen? ⟨w3.heap.size, 2, none⟩ = false := hkz.frozen 2
  have y3 : wz.frozen? ⟨w3.heap.size, 3, none⟩ = false := hkz.frozen 3
  obtain ⟨w4, hw4, hz4, hk4, t34⟩ : ∃ w4, (((wz.setCell ⟨w3.heap.size, 0, none⟩ (.string c1)).setCell ⟨w3.heap.size, 1, none⟩ (.int .i64 c2)).setCell ⟨w3.heap.size, 2, none⟩ (.int .i64 c3)).setCell ⟨w3.heap.size, 3, none⟩ (.bool false) = w4 ∧ w4.heap.size = w3.heap.size + 1 ∧ Bk w4 w3.heap.size 93 #[.string c1, .int .i64 c2, .int .i64 c3, .bool false] ∧ Tn [] w3 w4 := ⟨_, rfl, by simp [hzz], (((hkz.set 0 _).set 1 _).set 2 _).set 3 _, by rw [← hwz]; exact (((((Tn.refl [] w3).alloc _).setCell (.inr (Nat.le_refl _)) _).setCell (.inr (Nat.le_refl _)) _).setCell (.inr (Nat.le_refl _)) _).setCell (.inr (Nat.le_refl _)) _⟩
  obtain ⟨C, hC⟩ : ∃ C, w3.heap.size = C := ⟨_, rfl⟩
  rw [hC] at hw4 z0 z1 z2 z3 y0 y1 y2 y3 hk4
  have hz3 := hb3.size
  have HK4 : Hid (MidH m w [C, w.heap.size] w4 H cB vB eB h av) := (HK2.out.quiet (Tn.of_below hb3 [])).new t34 (by rw [← hC]; simp) (by rw [← hC]; simp; omega)
  have HA4 : Hid (Bk w4 w.heap.size 36 #[.int .i64 hS, .int .i64 hG] ∧ Bk w4 C 93 #[.string c1, .int .i64 c2, .int .i64 c3, .bool false] ∧ w.heap.size + 1 ≤ C) := ⟨(HA2.out.tn (Tn.of_below hb3 []) (by simp)).tn t34 (by simp), hk4, by omega⟩
  have c0' : w4.cell? ⟨C, 0, none⟩ = some (.string c1) := HA4.out.2.1.cell 0
  have c1' : w4.cell? ⟨C, 1, none⟩ = some (.int .i64 c2) := HA4.out.2.1.cell 1
  have c2' : w4.cell? ⟨C, 2, none⟩ = some (.int .i64 c3) := HA4.out.2.1.cell 2
  have c3' : w4.cell? ⟨C, 3, none⟩ = some (.bool false) := HA4.out.2.1.cell 3
  clear hk4 t34 hb3 HLK a0 a1 hz3
  go_wp2_with fail
  refine (empty_any w4 ⟨c1, c2, c3, false⟩).mono ?_
  rintro e w5 ⟨rfl, hb5⟩
  rw [HNE.out]
  have HK5 : Hid (MidH m w [C, w.heap.size] w5 H cB vB eB h av) := HK4.out.quiet (Tn.of_below hb5 [])
  have HA5 : Hid (Bk w5 w.heap.size 36 #[.int .i64 hS, .int .i64 hG] ∧ Bk w5 C 93 #[.string c1, .int .i64 c2, .int .i64 c3, .bool false] ∧ w.heap.size + 1 ≤ C) := ⟨HA4.out.1.tn (Tn.of_below hb5 []) (by simp), HA4.out.2.1.tn (Tn.of_below hb5 []) (by simp), HA4.out.2.2⟩
  have d0' : w5.cell? ⟨C, 0, none⟩ = some (.string c1) := HA5.out.2.1.cell 0
  have d1' : w5.cell? ⟨C, 1, none⟩ = some (.int .i64 c2) := HA5.out.2.1.cell 1
  have d2' : w5.cell? ⟨C, 2, none⟩ = some (.int .i64 c3) := HA5.out.2.1.cell 2
  have d3' : w5.cell? ⟨C, 3, none⟩ = some (.bool false) := HA5.out.2.1.cell 3
  have HCH : Hid (Calls Try.prog 39 #[.pointer (some ⟨H, 0, none⟩), .agg #[.string c1, .int .i64 c2, .int .i64 c3, .bool false]] w5 fun e w' => ∃ v1 v2, e = .returned (.tuple #[.agg #[v1, v2], .int .i64 0]) ∧ TwoH w5.heap.size w' v1 v2 (l.map Ln.ver) (hds c2 c3 l) ∧ Below w5.heap.size w5 w') := chain_good HK5.out.1 ⟨c1, c2, c3, false⟩ l hc hl
  have HCC : Hid (Chn h.v c2 c3 l) := hc
  clear hb5 c0' c1' c2' c3' hc z0 z1 z2 z3 y0 y1 y2 y3
  go_wp2_with fail
  refine HCH.out.mono ?_
  rintro e w6 ⟨v1, v2, rfl, htw, hb6⟩
  have hkl : k < l.length := (List.getElem?_eq_some_iff.1 hx).1
  obtain ⟨b1, d1, rfl, hels1, hcap1, hge1, hlt1⟩ := own_more vknd htw.o1 (by rw [List.length_map]; omega)
  obtain ⟨b2, d2, rfl, hels2, hcap2, hge2, hlt2⟩ := own_more hdK htw.o2 (by rw [hds_len]; omega)
  obtain ⟨n1, hn1⟩ : ∃ n1, (l.map Ln.ver).length = n1 := ⟨_, rfl⟩
  obtain ⟨n2, hn2⟩ : ∃ n2, (hds c2 c3 l).length = n2 := ⟨_, rfl⟩
  rw [hn1] at hcap1 ⊢
  rw [hn2] at hcap2 ⊢
  have hn9 : n1 ≤ 65536 := by rw [← hn1, List.length_map]; exact hl
  have hn8 : n2 ≤ 65536 := by rw [← hn2, hds_len]; exact hl
  obtain ⟨F, hF⟩ : ∃ F, w6.heap.size = F := ⟨_, rfl⟩
  obtain ⟨w7, hw7, hk7⟩ : ∃ w7, w6.alloc (.cells #[.slice (some ⟨b1, 0, none⟩) n1 d1, .slice (some ⟨b2, 0, none⟩) n2 d2] 107) = w7 ∧ Bk w7 F 107 #[.slice (some ⟨b1, 0, none⟩) n1 d1, .slice (some ⟨b2, 0, none⟩) n2 d2] := ⟨_, rfl, by rw [← hF]; exact Bk.new _ _ _⟩
  have hb7 : Below w6.heap.size w6 w7 := by rw [← hw7]; exact (Below.refl _ _).alloc (Nat.le_refl _) _
  have hb57 : Below w5.heap.size w5 w7 := hb6.trans (hb7.mono hb6.size)
  have hz6 := hb6.size
  have hz7 := hb7.size
  have hFlt := hk7.lt
  have f0 : w7.cell? ⟨F, 0, none⟩ = some (.slice (some ⟨b1, 0, none⟩) n1 d1) := hk7.cell 0
  have HK7 : Hid (MidH m w [F, b1, b2, C, w.heap.size] w7 H cB vB eB h av) := by
    refine HK5.out.new (Tn.of_below hb57 []) (fun y hy => ?_) (fun y hy => ?_)
    · simp only [List.mem_cons, List.not_mem_nil, or_false] at hy
      rcases hy with rfl | rfl | rfl | hy
      · exact .inr (by omega)
      · exact .inr (by omega)
      · exact .inr (by omega)
      · exact .inl (by simpa using hy)
    · simp only [List.mem_cons, List.not_mem_nil, or_false] at hy
      rcases hy with rfl | rfl | rfl | hy
      · exact hFlt
      · omega
      · omega
      · have := HK5.out.1.avlt y (List.mem_append.2 (.inl (by simpa using hy)))
        omega
  have hzk : z = k + 1 := by rw [← hz, hk, List.length_take, List.length_map]; omega
  have HPR : Hid (Calls Try.prog 45 #[.slice (some ⟨b1, 0, none⟩) n1 d1, .int .i64 mark] w7 fun e w' => ∃ p c q d, e = .returned (.tuple #[.slice p z c, .slice q r d]) ∧ Below w7.heap.size w7 w') := by
    refine (prune_any (some ⟨b1, 0, none⟩) n1 d1 (l.map Ln.ver) mark w7 hn1 (hels1.below hb7 (Nat.le_refl _)) (by omega)).mono ?_
    rintro e w' ⟨u1, u2, rfl, ht⟩
    obtain ⟨p, c, hv, -⟩ := ht.o1.els vknd
    obtain ⟨q, d, hv2, -⟩ := ht.o2.els vknd
    rw [hz] at hv
    rw [hr] at hv2
    exact ⟨p, c, q, d, by rw [hv, hv2], ht.below⟩
  have hmem : (nextS c2 l k, nextG c3 l k) ∈ hds c2 c3 l := List.mem_of_getElem? (hds_at l c2 c3 k hkl)
  have hgk := (Chn.good HCC.out _ hmem).1
  have HCT : Hid (∀ w8, Below w7.heap.size w7 w8 → Hid (Calls Try.prog 46 #[.pointer (some ⟨H, 0, none⟩), .agg #[.slice (some ⟨b1, 0, none⟩) n1 d1, .slice (some ⟨b2, 0, none⟩) n2 d2], .int .i64 (z : Int)] w8 fun e w' => e = .returned (.tuple #[]) ∧ MidH m w [F, b1, b2, C, w.heap.size] w' H cB vB eB (h.pruned c2 c3 l k x) av)) := by
    intro w8 hb8
    have K8 := HK7.out.quiet (Tn.of_below hb8 [])
    rw [hzk]
    refine (cut_any K8.1 b1 0 b2 0 n1 d1 n2 d2 (l.map Ln.ver) (hds c2 c3 l) k x.ver (nextS c2 l k, nextG c3 l k) hn1 hn2 hcap1 hcap2 ((hels1.below hb7 (Nat.le_refl _)).below hb8 (Nat.le_refl _)) ((hels2.below hb7 (Nat.le_refl _)).below hb8 (Nat.le_refl _)) (by simp) (by simp) (by rw [List.getElem?_map, hx]; rfl) (hds_at l c2 c3 k hkl) hgk hn8 hcu).mono ?_
    rintro e w' ⟨rfl, ha⟩
    exact ⟨rfl, K8.call ha⟩
  have hz0 : ¬ (z : Int) = 0 := by omega
  have f1 : w7.cell? ⟨F, 1, none⟩ = some (.slice (some ⟨b2, 0, none⟩) n2 d2) := hk7.cell 1
  have HA7 : Hid (Bk w7 F 107 #[.slice (some ⟨b1, 0, none⟩) n1 d1, .slice (some ⟨b2, 0, none⟩) n2 d2]) := hk7
  clear htw hels1 hels2 hb6 hb7 hb57 hk7 HCH hn1 hn2 d0' d1' d2' d3' hcap1 hcap2 hge1 hge2 hlt1 hlt2 hn9 hn8 hz6 hz7 hFlt hgk hmem hkl hx hk hzk hl hz hr hcu
  go_wp2_with fail
  refine HPR.out.mono ?_
  rintro e w8 ⟨pp, pc, qq, qd, rfl, hb8⟩
  have hk8 := HA7.out.tn (Tn.of_below hb8 []) (by simp)
  have e0 : w8.cell? ⟨F, 0, none⟩ = some (.slice (some ⟨b1, 0, none⟩) n1 d1) := hk8.cell 0
  have e1 : w8.cell? ⟨F, 1, none⟩ = some (.slice (some ⟨b2, 0, none⟩) n2 d2) := hk8.cell 1
  have HC8 := HCT.out w8 hb8
  clear HCT HPR hk8 hb8 f0 f1
  go_wp2_with fail
  refine HC8.out.mono ?_
  rintro e w9 ⟨rfl, K9⟩
  have HK9 : Hid (MidH m w [F, b1, b2, C, w.heap.size] w9 H cB vB eB (h.pruned c2 c3 l k x) av) := K9
  clear HC8 K9
  go_wp2
  go_ret3
  exact ⟨rfl, HK9.out.fin⟩


set_option maxHeartbeats 1000000 in
/-- One that has no version is left as it is. -/
theorem prune_empty (hh : Hpn m w H cB vB eB h av) (hS hG mark : Int) (hg : h.c.Good hS hG) (hne : (slAt h.c.us hS.toNat).val.s = 0 ∧ (slAt h.c.us hS.toNat).val.g = 0) (hcd : (slAt h.c.us hS.toNat).val.closed = false) :
    Calls Try.prog 14 #[.pointer (some ⟨H, 0, none⟩), .agg #[.int .i64 hS, .int .i64 hG], .int .i64 mark] w fun e w' => e = .returned (.tuple #[.int .i64 0, .bool false, .int .i64 0]) ∧ AftH m w w' H cB vB eB h av := by
  obtain ⟨w2, hw2, hz2, hk1⟩ : ∃ w2, w.alloc (.cells #[.int .i64 hS, .int .i64 hG] 36) = w2 ∧ w2.heap.size = w.heap.size + 1 ∧ Bk w2 w.heap.size 36 #[.int .i64 hS, .int .i64 hG] := ⟨_, rfl, by simp, Bk.new _ _ _⟩
  have t2 : Tn [] w w2 := by rw [← hw2]; exact (Tn.refl _ _).alloc _
  have K2 : MidH m w [w.heap.size] w2 H cB vB eB h av := (MidH.start hh).new t2 (by simp) (by simp; omega)
  have HK2 : Hid (MidH m w [w.heap.size] w2 H cB vB eB h av) := K2
  have HA2 : Hid (Bk w2 w.heap.size 36 #[.int .i64 hS, .int .i64 hG]) := hk1
  have a0 : w2.cell? ⟨w.heap.size, 0, none⟩ = some (.int .i64 hS) := hk1.cell 0
  have a1 : w2.cell? ⟨w.heap.size, 1, none⟩ = some (.int .i64 hG) := hk1.cell 1
  obtain ⟨cl, hcl⟩ : ∃ cl, (slAt h.c.us hS.toNat).val = cl := ⟨_, rfl⟩
  have hlk := hlook_good K2.1 hS hG hg
  rw [hcl] at hlk hne hcd
  obtain ⟨c1, c2, c3, c4⟩ := cl
  obtain rfl : c4 = false := hcd
  have HLK : Hid (Calls Try.prog 43 #[.pointer (some ⟨H, 0, none⟩), .agg #[.int .i64 hS, .int .i64 hG]] w2 fun e w' => e = .returned (.tuple #[.agg #[.string c1, .int .i64 c2, .int .i64 c3, .bool false], .int .i64 0]) ∧ Below w2.heap.size w2 w') := hlk
  have HG : Hid (h.c.Good hS hG) := hg
  have HNE : Hid (decide (c2 = 0 ∧ c3 = 0) = true) := decide_eq_true hne
  clear hh t2 K2 hk1 hg hcl hlk hne
  go_enter Try.func14, Try.ntmps14
  go_wp2_with fail
  refine HLK.out.mono ?_
  rintro e w3 ⟨rfl, hb3⟩
  obtain ⟨wz, hwz, hzz, hkz⟩ : ∃ wz, w3.alloc (.cells #[.string ⟨#[]⟩, .int .i64 0, .int .i64 0, .bool false] 93) = wz ∧ wz.heap.size = w3.heap.size + 1 ∧ Bk wz w3.heap.size 93 #[.string ⟨#[]⟩, .int .i64 0, .int .i64 0, .bool false] := ⟨_, rfl, by simp, Bk.new _ _ _⟩
  have z0 : wz.cell? ⟨w3.heap.size, 0, none⟩ = some (.string ⟨#[]⟩) := hkz.cell 0
  have z1 : wz.cell? ⟨w3.heap.size, 1, none⟩ = some (.int .i64 0) := hkz.cell 1
  have z2 : wz.cell? ⟨w3.heap.size, 2, none⟩ = some (.int .i64 0) := hkz.cell 2
  have z3 : wz.cell? ⟨w3.heap.size, 3, none⟩ = some (.bool false) := hkz.cell 3
  have y0 : wz.frozen? ⟨w3.heap.size, 0, none⟩ = false := hkz.frozen 0
  have y1 : wz.frozen? ⟨w3.heap.size, 1, none⟩ = false := hkz.frozen 1
  have y2 : wz.frozen? ⟨w3.heap.size, 2, none⟩ = false := hkz.frozen 2
  have y3 : wz.frozen? ⟨w3.heap.size, 3, none⟩ = false := hkz.frozen 3
  obtain ⟨w4, hw4, hz4, hk4, t34⟩ : ∃ w4, (((wz.setCell ⟨w3.heap.size, 0, none⟩ (.string c1)).setCell ⟨w3.heap.size, 1, none⟩ (.int .i64 c2)).setCell ⟨w3.heap.size, 2, none⟩ (.int .i64 c3)).setCell ⟨w3.heap.size, 3, none⟩ (.bool false) = w4 ∧ w4.heap.size = w3.heap.size + 1 ∧ Bk w4 w3.heap.size 93 #[.string c1, .int .i64 c2, .int .i64 c3, .bool false] ∧ Tn [] w3 w4 := ⟨_, rfl, by simp [hzz], (((hkz.set 0 _).set 1 _).set 2 _).set 3 _, by rw [← hwz]; exact (((((Tn.refl [] w3).alloc _).setCell (.inr (Nat.le_refl _)) _).setCell (.inr (Nat.le_refl _)) _).setCell (.inr (Nat.le_refl _)) _).setCell (.inr (Nat.le_refl _)) _⟩
  obtain ⟨C, hC⟩ : ∃ C, w3.heap.size = C := ⟨_, rfl⟩
  rw [hC] at hw4 z0 z1 z2 z3 y0 y1 y2 y3 hk4
  have hz3 := hb3.size
  have HK4 : Hid (MidH m w [C, w.heap.size] w4 H cB vB eB h av) := (HK2.out.quiet (Tn.of_below hb3 [])).new t34 (by rw [← hC]; simp) (by rw [← hC]; simp; omega)
  have HA4 : Hid (Bk w4 w.heap.size 36 #[.int .i64 hS, .int .i64 hG] ∧ Bk w4 C 93 #[.string c1, .int .i64 c2, .int .i64 c3, .bool false] ∧ w.heap.size + 1 ≤ C) := ⟨(HA2.out.tn (Tn.of_below hb3 []) (by simp)).tn t34 (by simp), hk4, by omega⟩
  have c0' : w4.cell? ⟨C, 0, none⟩ = some (.string c1) := HA4.out.2.1.cell 0
  have c1' : w4.cell? ⟨C, 1, none⟩ = some (.int .i64 c2) := HA4.out.2.1.cell 1
  have c2' : w4.cell? ⟨C, 2, none⟩ = some (.int .i64 c3) := HA4.out.2.1.cell 2
  have c3' : w4.cell? ⟨C, 3, none⟩ = some (.bool false) := HA4.out.2.1.cell 3
  clear hk4 t34 hb3 HLK a0 a1 hz3
  go_wp2_with fail
  refine (empty_any w4 ⟨c1, c2, c3, false⟩).mono ?_
  rintro e w5 ⟨rfl, hb5⟩
  rw [HNE.out]
  have HK5 : Hid (MidH m w [C, w.heap.size] w5 H cB vB eB h av) := HK4.out.quiet (Tn.of_below hb5 [])
  have d3' : w5.cell? ⟨C, 3, none⟩ = some (.bool false) := (HA4.out.2.1.tn (Tn.of_below hb5 []) (by simp)).cell 3
  clear hb5 c0' c1' c2' c3' z0 z1 z2 z3 y0 y1 y2 y3
  go_wp2
  go_quiet (fail)
  go_wp2
  go_ret3
  exact ⟨rfl, (HK5.out.quiet (tn_drewN _ _)).fin⟩

set_option maxHeartbeats 1000000 in
/-- One that is closed is left as it is. -/
theorem prune_closed (hh : Hpn m w H cB vB eB h av) (hS hG mark : Int) (hg : h.c.Good hS hG) (hcd : (slAt h.c.us hS.toNat).val.closed = true) :
    Calls Try.prog 14 #[.pointer (some ⟨H, 0, none⟩), .agg #[.int .i64 hS, .int .i64 hG], .int .i64 mark] w fun e w' => e = .returned (.tuple #[.int .i64 0, .bool true, .int .i64 0]) ∧ AftH m w w' H cB vB eB h av := by
  obtain ⟨w2, hw2, hk1⟩ : ∃ w2, w.alloc (.cells #[.int .i64 hS, .int .i64 hG] 36) = w2 ∧ Bk w2 w.heap.size 36 #[.int .i64 hS, .int .i64 hG] := ⟨_, rfl, Bk.new _ _ _⟩
  have t2 : Tn [] w w2 := by rw [← hw2]; exact (Tn.refl _ _).alloc _
  have HK2 : Hid (Hpn m w2 H cB vB eB h av ∧ AftH m w w2 H cB vB eB h av) := ⟨hh.quiet t2, AftH.quiet hh t2⟩
  have a0 : w2.cell? ⟨w.heap.size, 0, none⟩ = some (.int .i64 hS) := hk1.cell 0
  have a1 : w2.cell? ⟨w.heap.size, 1, none⟩ = some (.int .i64 hG) := hk1.cell 1
  obtain ⟨cl, hcl⟩ : ∃ cl, (slAt h.c.us hS.toNat).val = cl := ⟨_, rfl⟩
  have hlk := hlook_good HK2.out.1 hS hG hg
  rw [hcl] at hlk hcd
  obtain ⟨c1, c2, c3, c4⟩ := cl
  obtain rfl : c4 = true := hcd
  have HLK : Hid (Calls Try.prog 43 #[.pointer (some ⟨H, 0, none⟩), .agg #[.int .i64 hS, .int .i64 hG]] w2 fun e w' => e = .returned (.tuple #[.agg #[.string c1, .int .i64 c2, .int .i64 c3, .bool true], .int .i64 0]) ∧ Below w2.heap.size w2 w') := hlk
  clear hh t2 hk1 hg hcl hlk
  go_enter Try.func14, Try.ntmps14
  go_wp2_with fail
  refine HLK.out.mono ?_
  rintro e w3 ⟨rfl, hb3⟩
  obtain ⟨w5, hw5, hk5⟩ : ∃ w5, w3.alloc (.cells #[.string c1, .int .i64 c2, .int .i64 c3, .bool true] 93) = w5 ∧ Bk w5 w3.heap.size 93 #[.string c1, .int .i64 c2, .int .i64 c3, .bool true] := ⟨_, rfl, Bk.new _ _ _⟩
  have HK5 : Hid (AftH m w w5 H cB vB eB h av) := HK2.out.2.trans (AftH.quiet HK2.out.1 (by rw [← hw5]; exact (Tn.of_below hb3 []).alloc _))
  have d3' : w5.cell? ⟨w3.heap.size, 3, none⟩ = some (.bool true) := hk5.cell 3
  clear hb3 hk5
  go_wp2
  go_quiet (fail)
  go_wp2
  go_ret3
  exact ⟨rfl, HK5.out.trans (AftH.quiet HK5.out.1 (tn_drewN _ _))⟩

end Go.Proofs.Ytbdcdiihaecheaa

namespace Go.Proofs.Ytbdcdiihaecheaa
open Go.RowKit
set_option linter.unusedVariables false
set_option maxRecDepth 100000
set_option linter.unusedSectionVars false
variable [Inhabited Cl] [Inhabited Ln]

variable {m : Nat} {w w1 w2 w' : World} {H cB vB eB : Nat} {cb vb eb : List Nat} {h h' : Hp} {av L L' : List Nat}

/-- What Install makes of it: a link at the chain's head. -/
def Hp.instC (h : Hp) (s : Nat) (x : Vs) (cl : Cl) : Hp := { (h.setSh s { shAt h.sh s with v := (shAt h.sh s).v - 1 }) with v := h.v.put ⟨x.ts, x.val, x.del, cl.s, cl.g⟩ }
def Hp.inst (h : Hp) (s : Nat) (i : Nat) (x : Vs) : Hp :=
  { (h.instC s x (slAt h.c.us i).val) with c := h.c.set i { (slAt h.c.us i).val with s := (low h.v.us : Int), g := h.v.gen } }

set_option maxHeartbeats 4000000 in
theorem install_ok (hh : Hpn m w H cB vB eB h av) (s : Nat) (hs : s < 17) (hn : (shAt h.sh s).has = true) (hS hG : Int) (hg : h.c.Good hS hG) (x : Vs) (l : List Ln) (hc : Chn h.v (slAt h.c.us hS.toNat).val.s (slAt h.c.us hS.toNat).val.g l) (hl : l.length ≤ 65536) (hcd : (slAt h.c.us hS.toNat).val.closed = false)
    (hx : x.val.size ≤ 9223372036854775807) (hp : Vr.putE (l.map Ln.ver) x = 0) (hv : 0 < (shAt h.sh s).v) (hv9 : (shAt h.sh s).v ≤ 65536) (hlv : live h.v.us < h.v.size) (hg1 : 1 ≤ h.v.gen) (hg2 : h.v.gen ≤ 9223372036854775807) :
    Calls Try.prog 13 #[.pointer (some ⟨H, 0, none⟩), .int .i64 (s : Int), .agg #[.int .i64 hS, .int .i64 hG], x.v] w fun e w' => e = .returned (.int .i64 0) ∧ AftH m w w' H cB vB eB (h.inst s hS.toNat x) av := by
  obtain ⟨x1, x2, x3⟩ := x
  obtain ⟨w2, hw2, hz2, hk1, hk2⟩ : ∃ w2, (w.alloc (.cells #[.int .i64 hS, .int .i64 hG] 36)).alloc (.cells #[.int .i64 x1, .string x2, .bool x3] 34) = w2 ∧ w2.heap.size = w.heap.size + 2 ∧ Bk w2 w.heap.size 36 #[.int .i64 hS, .int .i64 hG] ∧ Bk w2 (w.heap.size + 1) 34 #[.int .i64 x1, .string x2, .bool x3] := ⟨_, rfl, by simp, (Bk.new _ _ _).alloc _, bk_new2 _ _ _ _⟩
  have t2 : Tn [] w w2 := by rw [← hw2]; exact ((Tn.refl _ _).alloc _).alloc _
  have K2 : MidH m w [w.heap.size, w.heap.size + 1] w2 H cB vB eB h av := (MidH.start hh).new t2 (by simp) (by simp; omega)
  have HK2 : Hid (MidH m w [w.heap.size, w.heap.size + 1] w2 H cB vB eB h av) := K2
  have HA2 : Hid (Bk w2 w.heap.size 36 #[.int .i64 hS, .int .i64 hG] ∧ Bk w2 (w.heap.size + 1) 34 #[.int .i64 x1, .string x2, .bool x3]) := ⟨hk1, hk2⟩
  have a0 : w2.cell? ⟨w.heap.size, 0, none⟩ = some (.int .i64 hS) := hk1.cell 0
  have a1 : w2.cell? ⟨w.heap.size, 1, none⟩ = some (.int .i64 hG) := hk1.cell 1
  have HASK : Hid (Calls Try.prog 38 #[.pointer (some ⟨H, 0, none⟩), .int .i64 (s : Int), .agg #[.int .i64 hS, .int .i64 hG]] w2 fun e w' => e = .returned (.tuple #[.pointer (some ⟨H, 3 + s * 3, none⟩), (slAt h.c.us hS.toNat).val.v, .int .i64 0]) ∧ Below w2.heap.size w2 w') := ask_good K2.1 s hs hn hS hG hg
  have HSS : Hid (s < 17) := hs
  obtain ⟨cl, hcl⟩ : ∃ cl, (slAt h.c.us hS.toNat).val = cl := ⟨_, rfl⟩
  rw [hcl] at HASK
  rw [hcl] at hc hcd
  have HCL : Hid ((slAt h.c.us hS.toNat).val = cl) := hcl
  have HG : Hid (h.c.Good hS hG) := hg
  obtain ⟨c1, c2, c3, c4⟩ := cl
  obtain rfl : c4 = false := hcd
  clear hh t2 K2 hk1 hk2 hs hn hg hcl
  go_enter Try.func13, Try.ntmps13
  go_wp2_with fail
  refine HASK.out.mono ?_
  rintro e w3 ⟨rfl, hb3⟩
  obtain ⟨wz, hwz, hzz, hkz⟩ : ∃ wz, w3.alloc (.cells #[.string ⟨#[]⟩, .int .i64 0, .int .i64 0, .bool false] 93) = wz ∧ wz.heap.size = w3.heap.size + 1 ∧ Bk wz w3.heap.size 93 #[.string ⟨#[]⟩, .int .i64 0, .int .i64 0, .bool false] := ⟨_, rfl, by simp, Bk.new _ _ _⟩
  have z0 : wz.cell? ⟨w3.heap.size, 0, none⟩ = some (.string ⟨#[]⟩) := hkz.cell 0
  have z1 : wz.cell? ⟨w3.heap.size, 1, none⟩ = some (.int .i64 0) := hkz.cell 1
  have z2 : wz.cell? ⟨w3.heap.size, 2, none⟩ = some (.int .i64 0) := hkz.cell 2
  have z3 : wz.cell? ⟨w3.heap.size, 3, none⟩ = some (.bool false) := hkz.cell 3
  have y0 : wz.frozen? ⟨w3.heap.size, 0, none⟩ = false := hkz.frozen 0
  have y1 : wz.frozen? ⟨w3.heap.size, 1, none⟩ = false := hkz.frozen 1
  have y2 : wz.frozen? ⟨w3.heap.size, 2, none⟩ = false := hkz.frozen 2
  have y3 : wz.frozen? ⟨w3.heap.size, 3, none⟩ = false := hkz.frozen 3
  obtain ⟨w4, hw4, hz4, hk4, t34⟩ : ∃ w4, (((wz.setCell ⟨w3.heap.size, 0, none⟩ (.string c1)).setCell ⟨w3.heap.size, 1, none⟩ (.int .i64 c2)).setCell ⟨w3.heap.size, 2, none⟩ (.int .i64 c3)).setCell ⟨w3.heap.size, 3, none⟩ (.bool false) = w4 ∧ w4.heap.size = w3.heap.size + 1 ∧ Bk w4 w3.heap.size 93 #[.string c1, .int .i64 c2, .int .i64 c3, .bool false] ∧ Tn [] w3 w4 := ⟨_, rfl, by simp [hzz], (((hkz.set 0 _).set 1 _).set 2 _).set 3 _, by rw [← hwz]; exact (((((Tn.refl [] w3).alloc _).setCell (.inr (Nat.le_refl _)) _).setCell (.inr (Nat.le_refl _)) _).setCell (.inr (Nat.le_refl _)) _).setCell (.inr (Nat.le_refl _)) _⟩
  obtain ⟨C, hC⟩ : ∃ C, w3.heap.size = C := ⟨_, rfl⟩
  rw [hC] at hw4 z0 z1 z2 z3 y0 y1 y2 y3 hk4
  have hzw := HK2.out.2.1.size
  have hz3 := hb3.size
  have HK4 : Hid (MidH m w [C, w.heap.size, w.heap.size + 1] w4 H cB vB eB h av) := (HK2.out.quiet (Tn.of_below hb3 [])).new t34 (by rw [← hC]; simp) (by have := HK2.out.1.avlt w.heap.size (by simp); have := HK2.out.1.avlt (w.heap.size + 1) (by simp); rw [← hC]; simp; omega)
  have HA4 : Hid (Bk w4 w.heap.size 36 #[.int .i64 hS, .int .i64 hG] ∧ Bk w4 (w.heap.size + 1) 34 #[.int .i64 x1, .string x2, .bool x3] ∧ Bk w4 C 93 #[.string c1, .int .i64 c2, .int .i64 c3, .bool false] ∧ w.heap.size + 2 ≤ C) := ⟨(HA2.out.1.tn (Tn.of_below hb3 []) (by simp)).tn t34 (by simp), (HA2.out.2.tn (Tn.of_below hb3 []) (by simp)).tn t34 (by simp), hk4, by have := HK2.out.1.avlt (w.heap.size + 1) (by simp); omega⟩
  rw [hC] at hz4
  have c0' : w4.cell? ⟨C, 0, none⟩ = some (.string c1) := HA4.out.2.2.1.cell 0
  have c1' : w4.cell? ⟨C, 1, none⟩ = some (.int .i64 c2) := HA4.out.2.2.1.cell 1
  have c2' : w4.cell? ⟨C, 2, none⟩ = some (.int .i64 c3) := HA4.out.2.2.1.cell 2
  have c3' : w4.cell? ⟨C, 3, none⟩ = some (.bool false) := HA4.out.2.2.1.cell 3
  clear hk4 t34 hb3 HASK a0 a1 hzw hz3
  go_wp2_with fail
  have HCH : Hid (Calls Try.prog 39 #[.pointer (some ⟨H, 0, none⟩), .agg #[.string c1, .int .i64 c2, .int .i64 c3, .bool false]] w4 fun e w' => ∃ v1 v2, e = .returned (.tuple #[.agg #[v1, v2], .int .i64 0]) ∧ TwoH w4.heap.size w' v1 v2 (l.map Ln.ver) (hds c2 c3 l) ∧ Below w4.heap.size w4 w') := chain_good HK4.out.1 ⟨c1, c2, c3, false⟩ l hc hl
  clear c0' c1' c2' c3' hc
  refine HCH.out.mono ?_
  rintro e w5 ⟨v1, v2, rfl, htw, hb5⟩
  obtain ⟨q1, n1, d1, rfl, hels, hnil, hn1⟩ : ∃ p n c, v1 = .slice p n c ∧ Vrs w5 p (l.map Ln.ver) ∧ (p = none → n = 0 ∧ c = 0) ∧ (l.map Ln.ver).length = n := by
    obtain ⟨p, c, hv, he, hn, -⟩ := htw.o1.els vknd
    exact ⟨p, _, c, hv, he, hn, rfl⟩
  obtain ⟨q2, n2, d2, rfl⟩ : ∃ p n c, v2 = .slice p n c := by
    obtain ⟨p, c, hv, -⟩ := htw.o2.els hdK
    exact ⟨p, _, c, hv⟩
  have hn9 : n1 ≤ 65536 := by rw [← hn1, List.length_map]; exact hl
  obtain ⟨w6, hw6, hz6, hk6⟩ : ∃ w6, w5.alloc (.cells #[.slice q1 n1 d1, .slice q2 n2 d2] 107) = w6 ∧ w6.heap.size = w5.heap.size + 1 ∧ Bk w6 w5.heap.size 107 #[.slice q1 n1 d1, .slice q2 n2 d2] := ⟨_, rfl, by simp, Bk.new _ _ _⟩
  have t56 : Tn [] w5 w6 := by rw [← hw6]; exact (Tn.refl _ _).alloc _
  have b56 : Below w5.heap.size w5 w6 := by rw [← hw6]; exact (Below.refl _ _).alloc (Nat.le_refl _) _
  obtain ⟨F, hF⟩ : ∃ F, w5.heap.size = F := ⟨_, rfl⟩
  have hz5 := hb5.size
  have HEL : Hid (Vrs w6 q1 (l.map Ln.ver)) := hels.below b56 (Nat.le_refl _)
  have HK6 : Hid (MidH m w [F, C, w.heap.size, w.heap.size + 1] w6 H cB vB eB h av) := by
    have k5 := HK4.out.quiet (Tn.of_below hb5 [])
    refine k5.new t56 (by rw [← hF]; simp) (fun x hx => ?_)
    rcases List.mem_cons.1 hx with rfl | hx
    · omega
    · have := k5.1.avlt x (List.mem_append.2 (.inl hx)); omega
  have HA6 : Hid (Bk w6 w.heap.size 36 #[.int .i64 hS, .int .i64 hG] ∧ Bk w6 (w.heap.size + 1) 34 #[.int .i64 x1, .string x2, .bool x3] ∧ Bk w6 C 93 #[.string c1, .int .i64 c2, .int .i64 c3, .bool false] ∧ w.heap.size + 2 ≤ C) := ⟨(HA4.out.1.tn (Tn.of_below hb5 []) (by simp)).tn t56 (by simp), (HA4.out.2.1.tn (Tn.of_below hb5 []) (by simp)).tn t56 (by simp), (HA4.out.2.2.1.tn (Tn.of_below hb5 []) (by simp)).tn t56 (by simp), HA4.out.2.2.2⟩
  rw [hF] at hz6 hk6
  have f0 : w6.cell? ⟨F, 0, none⟩ = some (.slice q1 n1 d1) := hk6.cell 0
  have v0 : w6.cell? ⟨w.heap.size + 1, 0, none⟩ = some (.int .i64 x1) := HA6.out.2.1.cell 0
  have v1 : w6.cell? ⟨w.heap.size + 1, 1, none⟩ = some (.string x2) := HA6.out.2.1.cell 1
  have v2 : w6.cell? ⟨w.heap.size + 1, 2, none⟩ = some (.bool x3) := HA6.out.2.1.cell 2
  have HPV : Hid (Calls Try.prog 40 #[.slice q1 n1 d1, .agg #[.int .i64 x1, .string x2, .bool x3]] w6 fun e w' => ∃ u, e = .returned (.tuple #[u, .int .i64 (Vr.putE (l.map Ln.ver) ⟨x1, x2, x3⟩)]) ∧ OwnV w' w6.heap.size u (Vr.putL (l.map Ln.ver) ⟨x1, x2, x3⟩) ∧ Below w6.heap.size w6 w') := put_any q1 n1 d1 (l.map Ln.ver) ⟨x1, x2, x3⟩ w6 hn1 HEL.out (fun e => by have := hnil e; omega) hx (by omega)
  clear htw hels hnil hb5 t56 b56 hk6 HCH HEL hn1
  go_wp2_with fail
  refine HPV.out.mono ?_
  rintro e w7 ⟨u, rfl, -, hb7⟩
  have HK7 : Hid (MidH m w [F, C, w.heap.size, w.heap.size + 1] w7 H cB vB eB h av) := HK6.out.quiet (Tn.of_below hb7 [])
  have HA7 : Hid (Bk w7 w.heap.size 36 #[.int .i64 hS, .int .i64 hG] ∧ Bk w7 (w.heap.size + 1) 34 #[.int .i64 x1, .string x2, .bool x3] ∧ Bk w7 C 93 #[.string c1, .int .i64 c2, .int .i64 c3, .bool false]) := ⟨HA6.out.1.tn (Tn.of_below hb7 []) (by simp), HA6.out.2.1.tn (Tn.of_below hb7 []) (by simp), HA6.out.2.2.1.tn (Tn.of_below hb7 []) (by simp)⟩
  obtain ⟨-, -, s2⟩ := HK7.out.1.shc s HSS.out
  have fs2 := HK7.out.1.frz (3 + s * 3 + 2)
  clear hb7 HPV f0 v0 v1 v2
  obtain ⟨k, hck⟩ : ∃ k : Nat, (shAt h.sh s).v = k + 1 := ⟨(shAt h.sh s).v - 1, by omega⟩
  rw [hck] at s2 hv9
  obtain ⟨z, hz⟩ : ∃ z, ((k + 1 : Nat) : Int) = z := ⟨_, rfl⟩
  rw [hz] at s2
  have hne : ¬ z = 0 := by omega
  have hz9 : z ≤ 65536 := by omega
  have hz0 : 1 ≤ z := by omega
  have hzk : z - 1 = (k : Int) := by omega
  -- the share
  obtain ⟨w8, hw8⟩ : ∃ w8, w7.setCell ⟨H, 3 + s * 3 + 2, none⟩ (.int .i64 (k : Int)) = w8 := ⟨_, rfl⟩
  have HK8 : Hid (MidH m w [F, C, w.heap.size, w.heap.size + 1] w8 H cB vB eB (h.setSh s { shAt h.sh s with v := k }) av) := by
    obtain ⟨cb, vb, eb, hI⟩ := HK7.out.1
    exact HK7.out.call (hI.putV s HSS.out k hw8.symm)
  have HA8 : Hid (Bk w8 w.heap.size 36 #[.int .i64 hS, .int .i64 hG] ∧ Bk w8 (w.heap.size + 1) 34 #[.int .i64 x1, .string x2, .bool x3] ∧ Bk w8 C 93 #[.string c1, .int .i64 c2, .int .i64 c3, .bool false]) := by
    have hne : ∀ y ∈ [F, C, w.heap.size, w.heap.size + 1], y ≠ H := fun y hy => by
      obtain ⟨_, _, _, hI⟩ := HK7.out.1
      exact (hI.av y (List.mem_append.2 (.inl hy))).2.1
    rw [← hw8]
    exact ⟨HA7.out.1.other (hne _ (by simp)) _, HA7.out.2.1.other (hne _ (by simp)) _, HA7.out.2.2.other (hne _ (by simp)) _⟩
  have hCH : ¬ C = H := by
    obtain ⟨_, _, _, hI⟩ := HK8.out.1
    exact (hI.av C (by simp)).2.1
  have hCH2 : ¬ H = C := fun e => hCH e.symm
  have hC2 := HA6.out.2.2.2
  have hCV : ¬ C = w.heap.size + 1 := by omega
  have hCV2 : ¬ w.heap.size + 1 = C := by omega
  have hCA : ¬ C = w.heap.size := by omega
  have hCA2 : ¬ w.heap.size = C := by omega
  have HPUT : Hid (Calls Try.prog 41 #[.pointer (some ⟨vB, 0, none⟩), .agg #[.int .i64 x1, .string x2, .bool x3, .int .i64 c2, .int .i64 c3]] w8.drew fun e w' => e = .returned (.tuple #[.agg #[.int .i64 (low h.v.us : Int), .int .i64 h.v.gen], .int .i64 0]) ∧ MidH m w [F, C, w.heap.size, w.heap.size + 1] w' H cB vB eB (h.instC s ⟨x1, x2, x3⟩ ⟨c1, c2, c3, false⟩) av ∧ Bk w' w.heap.size 36 #[.int .i64 hS, .int .i64 hG] ∧ Bk w' (w.heap.size + 1) 34 #[.int .i64 x1, .string x2, .bool x3] ∧ Bk w' C 93 #[.string c1, .int .i64 c2, .int .i64 c3, .bool false]) := by
    have K8 := HK8.out.quiet (Tn.refl [] _).drew
    obtain ⟨cb, vb, eb, hI⟩ := K8.1
    refine (putOkL hI.v ⟨x1, x2, x3, c2, c3⟩ hlv hg1 hg2).mono ?_
    rintro e w9 ⟨rfl, ht⟩
    have ha := hI.stepV ht
    have e : h.instC s ⟨x1, x2, x3⟩ ⟨c1, c2, c3, false⟩ = { (h.setSh s { shAt h.sh s with v := k }) with v := h.v.put ⟨x1, x2, x3, c2, c3⟩ } := by unfold Hp.instC; rw [hck]; rfl
    rw [e]
    exact ⟨rfl, K8.call ha, ha.blk (by simp) HA8.out.1.drew, ha.blk (by simp) HA8.out.2.1.drew, ha.blk (by simp) HA8.out.2.2.drew⟩
  obtain ⟨ps, hps⟩ : ∃ ps, (low h.v.us : Int) = ps := ⟨_, rfl⟩
  obtain ⟨pg, hpg⟩ : ∃ pg, h.v.gen = pg := ⟨_, rfl⟩
  rw [hps, hpg] at HPUT
  have HPG : Hid ((low h.v.us : Int) = ps ∧ h.v.gen = pg) := ⟨hps, hpg⟩
  have p1 : w8.cell? ⟨H, 1, none⟩ = some (.pointer (some ⟨vB, 0, none⟩)) := HK8.out.1.ptrs.2.1
  have v0 : w8.cell? ⟨w.heap.size + 1, 0, none⟩ = some (.int .i64 x1) := HA8.out.2.1.cell 0
  have v1 : w8.cell? ⟨w.heap.size + 1, 1, none⟩ = some (.string x2) := HA8.out.2.1.cell 1
  have v2 : w8.cell? ⟨w.heap.size + 1, 2, none⟩ = some (.bool x3) := HA8.out.2.1.cell 2
  have d1 : w8.cell? ⟨C, 1, none⟩ = some (.int .i64 c2) := HA8.out.2.2.cell 1
  have d2 : w8.cell? ⟨C, 2, none⟩ = some (.int .i64 c3) := HA8.out.2.2.cell 2
  have HGD : Hid ((h.instC s ⟨x1, x2, x3⟩ ⟨c1, c2, c3, false⟩).c = h.c) := rfl
  rw [hp]
  clear hck hz hps hpg hlv hg1 hg2 hv hv9 HK8 HA8 HK7 HA7 HK6 HA6 HK4 HA4 HK2 HA2 hp hx hl hn9 hC hF hw2 hw4 hw6 hz2 hz4 hz5 hz6 hC2
  go_wp2_with fail
  go_region_with (go_at_call 41; refine HPUT.out.mono ?_; rintro e w9 ⟨rfl, K9, k9a, k9v, k9c⟩; have HK9 : Hid (MidH m w [F, C, w.heap.size, w.heap.size + 1] w9 H cB vB eB (h.instC s ⟨x1, x2, x3⟩ ⟨c1, c2, c3, false⟩) av) := K9; have HA9 : Hid (Bk w9 w.heap.size 36 #[.int .i64 hS, .int .i64 hG] ∧ Bk w9 C 93 #[.string c1, .int .i64 c2, .int .i64 c3, .bool false]) := ⟨k9a, k9c⟩; have p19 : w9.cell? ⟨H, 1, none⟩ = some (.pointer (some ⟨vB, 0, none⟩)) := HK9.out.1.ptrs.2.1; have v09 : w9.cell? ⟨w.heap.size + 1, 0, none⟩ = some (.int .i64 x1) := k9v.cell 0; have v19 : w9.cell? ⟨w.heap.size + 1, 1, none⟩ = some (.string x2) := k9v.cell 1; have v29 : w9.cell? ⟨w.heap.size + 1, 2, none⟩ = some (.bool x3) := k9v.cell 2; have d19 : w9.cell? ⟨C, 1, none⟩ = some (.int .i64 c2) := k9c.cell 1; have d29 : w9.cell? ⟨C, 2, none⟩ = some (.int .i64 c3) := k9c.cell 2; have e19 : w9.frozen? ⟨C, 1, none⟩ = false := k9c.frozen 1; have e29 : w9.frozen? ⟨C, 2, none⟩ = false := k9c.frozen 2; clear K9 k9a k9v k9c)
  all_goals (
    obtain ⟨w10, hw10⟩ : ∃ w10, (w9.setCell ⟨C, 1, none⟩ (.int .i64 ps)).setCell ⟨C, 2, none⟩ (.int .i64 pg) = w10 := ⟨_, rfl⟩
    have HK10 : Hid (MidH m w [F, C, w.heap.size, w.heap.size + 1] w10 H cB vB eB (h.instC s ⟨x1, x2, x3⟩ ⟨c1, c2, c3, false⟩) av) := by
      rw [← hw10]
      exact HK9.out.own (((Tn.refl _ _).setCell (.inl (by simp)) _).setCell (.inl (by simp)) _)
    have HA10 : Hid (Bk w10 w.heap.size 36 #[.int .i64 hS, .int .i64 hG] ∧ Bk w10 C 93 #[.string c1, .int .i64 ps, .int .i64 pg, .bool false]) := by
      rw [← hw10]
      exact ⟨(HA9.out.1.other hCA2 _).other hCA2 _, (HA9.out.2.set 1 _).set 2 _⟩
    have HSET : Hid (Calls Try.prog 42 #[.pointer (some ⟨cB, 0, none⟩), .agg #[.int .i64 hS, .int .i64 hG], .agg #[.string c1, .int .i64 ps, .int .i64 pg, .bool false]] w10.drew fun e w' => e = .returned (.int .i64 0) ∧ MidH m w [F, C, w.heap.size, w.heap.size + 1] w' H cB vB eB (h.inst s hS.toNat ⟨x1, x2, x3⟩) av ∧ Bk w' w.heap.size 36 #[.int .i64 hS, .int .i64 hG] ∧ Bk w' C 93 #[.string c1, .int .i64 ps, .int .i64 pg, .bool false]) := by
      have K10 := HK10.out.quiet (Tn.refl [] _).drew
      obtain ⟨cb, vb, eb, hI⟩ := K10.1
      refine (setGoodC hI.c hS hG ⟨c1, ps, pg, false⟩ HG.out).mono ?_
      rintro e w11 ⟨rfl, ht⟩
      have e : h.inst s hS.toNat ⟨x1, x2, x3⟩ = { (h.instC s ⟨x1, x2, x3⟩ ⟨c1, c2, c3, false⟩) with c := h.c.set hS.toNat ⟨c1, ps, pg, false⟩ } := by
        unfold Hp.inst
        rw [HCL.out, HPG.out.1, HPG.out.2]
      rw [e]
      have ha := hI.stepC ht
      exact ⟨rfl, K10.call ha, ha.blk (by simp) HA10.out.1.drew, ha.blk (by simp) HA10.out.2.drew⟩
    have p0 : w10.cell? ⟨H, 0, none⟩ = some (.pointer (some ⟨cB, 0, none⟩)) := HK10.out.1.ptrs.1
    have m0 : w10.cell? ⟨w.heap.size, 0, none⟩ = some (.int .i64 hS) := HA10.out.1.cell 0
    have m1 : w10.cell? ⟨w.heap.size, 1, none⟩ = some (.int .i64 hG) := HA10.out.1.cell 1
    have n0 : w10.cell? ⟨C, 0, none⟩ = some (.string c1) := HA10.out.2.cell 0
    have n1 : w10.cell? ⟨C, 1, none⟩ = some (.int .i64 ps) := HA10.out.2.cell 1
    have n2 : w10.cell? ⟨C, 2, none⟩ = some (.int .i64 pg) := HA10.out.2.cell 2
    have n3 : w10.cell? ⟨C, 3, none⟩ = some (.bool false) := HA10.out.2.cell 3
    rw [hw10]
    clear hw10 HK10 HA10 HK9 HA9 HPUT p19 v09 v19 v29 d19 d29 e19 e29 p1 v0 v1 v2 d1 d2
    go_wp2_with fail
    go_region_held3 (fun w' => w'.cell? ⟨H, 0, none⟩ = some (.pointer (some ⟨cB, 0, none⟩)) ∧ w'.cell? ⟨w.heap.size, 0, none⟩ = some (.int .i64 hS) ∧ w'.cell? ⟨w.heap.size, 1, none⟩ = some (.int .i64 hG) ∧ w'.cell? ⟨C, 0, none⟩ = some (.string c1) ∧ w'.cell? ⟨C, 1, none⟩ = some (.int .i64 ps) ∧ w'.cell? ⟨C, 2, none⟩ = some (.int .i64 pg) ∧ w'.cell? ⟨C, 3, none⟩ = some (.bool false)) (go_keep) (first
      | (go_at_call 42; refine HSET.out.mono ?_; rintro e w11 ⟨rfl, K11, k11a, k11c⟩; have HK11 : Hid (MidH m w [F, C, w.heap.size, w.heap.size + 1] w11 H cB vB eB (h.inst s hS.toNat ⟨x1, x2, x3⟩) av) := K11; have o0 : w11.cell? ⟨H, 0, none⟩ = some (.pointer (some ⟨cB, 0, none⟩)) := HK11.out.1.ptrs.1; have o1 : w11.cell? ⟨w.heap.size, 0, none⟩ = some (.int .i64 hS) := k11a.cell 0; have o2 : w11.cell? ⟨w.heap.size, 1, none⟩ = some (.int .i64 hG) := k11a.cell 1; have o3 : w11.cell? ⟨C, 0, none⟩ = some (.string c1) := k11c.cell 0; have o4 : w11.cell? ⟨C, 1, none⟩ = some (.int .i64 ps) := k11c.cell 1; have o5 : w11.cell? ⟨C, 2, none⟩ = some (.int .i64 pg) := k11c.cell 2; have o6 : w11.cell? ⟨C, 3, none⟩ = some (.bool false) := k11c.cell 3; clear K11 k11a k11c))
    go_wp2
    go_ret
    exact ⟨rfl, HK11.out.fin⟩)

end Go.Proofs.Ytbdcdiihaecheaa

namespace Go.Proofs.Ytbdcdiihaecheaa
open Go.RowKit
set_option linter.unusedVariables false
set_option maxRecDepth 100000
set_option linter.unusedSectionVars false
variable [Inhabited Cl] [Inhabited Ln]

/-- A cell with its versions. -/
structure CellAt (h : Hp) (s g : Int) (b : Bool) (L : List Ln) : Prop where
  good : h.c.Good s g
  chn : Chn h.v (slAt h.c.us s.toNat).val.s (slAt h.c.us s.toNat).val.g L
  shut : (slAt h.c.us s.toNat).val.closed = b

theorem Ar.Good.lt {α : Type} [Inhabited α] {a : Ar α} {s g : Int} (h : a.Good s g) : s.toNat < a.us.length := by
  have := h.1; have := h.2.1; omega

/-- The link that an Install makes. -/
def Hp.link (h : Hp) (i : Nat) (x : Vs) : Ln := ⟨x.ts, x.val, x.del, (slAt h.c.us i).val.s, (slAt h.c.us i).val.g⟩

theorem CellAt.inst {h : Hp} {s g : Int} {L : List Ln} (k : CellAt h s g false L) (q : Nat) (x : Vs) (h1 : 1 ≤ h.v.gen) : CellAt (h.inst q s.toNat x) s g false (h.link s.toNat x :: L) := by
  have hi := k.good.lt
  have e : (slAt (h.inst q s.toNat x).c.us s.toNat).val = { (slAt h.c.us s.toNat).val with s := (low h.v.us : Int), g := h.v.gen } := by
    show (slAt (h.c.set s.toNat _).us s.toNat).val = _
    rw [set_val hi, if_pos rfl]
  refine ⟨k.good.set hi _, ?_, ?_⟩
  · rw [e]
    refine ⟨⟨put_good _ _, h1, ?_⟩, k.chn.put _⟩
    show (slAt (h.v.put _).us (low h.v.us : Int).toNat).val = _
    rw [Int.toNat_natCast, (put_new _ _).1]
    rfl
  · rw [e]
    exact k.shut

theorem CellAt.setClosed {h : Hp} {s g : Int} {b : Bool} {L : List Ln} (k : CellAt h s g b L) (b' : Bool) : CellAt (h.setC s.toNat { (slAt h.c.us s.toNat).val with closed := b' }) s g b' L := by
  have hi := k.good.lt
  have e : (slAt (h.setC s.toNat { (slAt h.c.us s.toNat).val with closed := b' }).c.us s.toNat).val = { (slAt h.c.us s.toNat).val with closed := b' } := by
    show (slAt (h.c.set s.toNat _).us s.toNat).val = _
    rw [set_val hi, if_pos rfl]
  refine ⟨k.good.set hi _, ?_, ?_⟩
  · rw [e]; exact k.chn
  · rw [e]

theorem CellAt.pruned {h : Hp} {s g : Int} {L : List Ln} (k : CellAt h s g false L) (j : Nat) (x : Ln) (hx : L[j]? = some x) : CellAt (h.pruned (slAt h.c.us s.toNat).val.s (slAt h.c.us s.toNat).val.g L j x) s g false (cutL L j) :=
  ⟨k.good, k.chn.cut j x hx, k.shut⟩

/-- The state of the law that one cell is pruned: n versions were installed. -/
structure Nd (h : Hp) (n : Nat) (b : Bool) (L : List Ln) : Prop where
  cell : CellAt h 0 1 b L
  s17 : h.sh.length = 17
  sh : shAt h.sh 0 = ⟨true, 0, 50 - n⟩
  lv : live h.v.us = n
  sz : h.v.size = 60
  gens : Gens h.v.us (n : Int)
  st : h.c.stale = 0 ∧ h.v.stale = 0
  cu : h.e.cur.length + L.length ≤ n
  n5 : n ≤ 50

theorem shAt_set {l : List Sh} {i : Nat} (x : Sh) (hi : i < l.length) : shAt (l.set i x) i = x := by
  simp [shAt, List.getD, hi]

theorem Nd.inst {h : Hp} {n : Nat} {L : List Ln} (k : Nd h n false L) (x : Vs) (hn : n < 50) : Nd (h.inst 0 (0 : Int).toNat x) (n + 1) false (h.link (0 : Int).toNat x :: L) where
  cell := k.cell.inst 0 x (k.gens.gen (by omega)).1
  s17 := by
    show (h.sh.set 0 _).length = 17
    rw [List.length_set]; exact k.s17
  sh := by
    show shAt (h.sh.set 0 { shAt h.sh 0 with v := (shAt h.sh 0).v - 1 }) 0 = _
    rw [shAt_set _ (by rw [k.s17]; omega), k.sh]
    show (⟨true, 0, 50 - n - 1⟩ : Sh) = _
    rw [show 50 - n - 1 = 50 - (n + 1) by omega]
  lv := by
    show live (h.v.put _).us = _
    rw [live_put, k.lv]
  sz := k.sz
  gens := by
    show Gens (h.v.put _).us _
    rw [show ((n + 1 : Nat) : Int) = (n : Int) + 1 from rfl]
    exact Gens.put k.gens (by omega) (h.link (0 : Int).toNat x)
  st := k.st
  cu := by have := k.cu; show h.e.cur.length + (L.length + 1) ≤ n + 1; omega
  n5 := by omega

theorem Nd.shutC {h : Hp} {n : Nat} {b : Bool} {L : List Ln} (k : Nd h n b L) (b' : Bool) : Nd (h.setC (0 : Int).toNat { (slAt h.c.us (0 : Int).toNat).val with closed := b' }) n b' L :=
  ⟨k.cell.setClosed b', k.s17, k.sh, k.lv, k.sz, k.gens, k.st, k.cu, k.n5⟩

theorem Nd.prunedN {h : Hp} {n : Nat} {L : List Ln} (k : Nd h n false L) (j : Nat) (x : Ln) (hx : L[j]? = some x) : Nd (h.pruned (slAt h.c.us (0 : Int).toNat).val.s (slAt h.c.us (0 : Int).toNat).val.g L j x) n false (cutL L j) := by
  have hj : j < L.length := (List.getElem?_eq_some_iff.1 hx).1
  have hmem := List.mem_of_getElem? (hds_at L (slAt h.c.us (0 : Int).toNat).val.s (slAt h.c.us (0 : Int).toNat).val.g j hj)
  have hi : (nextS (slAt h.c.us (0 : Int).toNat).val.s L j).toNat < h.v.us.length := (Chn.good k.cell.chn _ hmem).1.lt
  refine ⟨k.cell.pruned j x hx, k.s17, k.sh, ?_, k.sz, ?_, k.st, ?_, k.n5⟩
  · show live (h.v.set _ _).us = n
    rw [set_live hi, k.lv]
  · exact Gens.setv k.gens hi _
  · have := k.cu
    show (h.e.cur ++ _).length + _ ≤ n
    rw [List.length_append, List.length_map, List.length_drop, hds_len, cutL_len L j hj]
    omega

/-- The last of some versions that is not above a timestamp. -/
def wnt (t : Int) (l : List Vs) : Option Vs := l.foldl (fun o v => if v.ts ≤ t then some v else o) none
theorem wnt_snoc (t : Int) (l : List Vs) (x : Vs) : wnt t (l ++ [x]) = if x.ts ≤ t then some x else wnt t l := by simp [wnt]
theorem wnt_at (t : Int) : ∀ (l : List Vs), wnt t l.reverse = Vr.at? l t
  | [] => rfl
  | x :: r => by
    rw [List.reverse_cons, wnt_snoc, wnt_at t r]
    unfold Vr.at?
    rw [List.find?_cons]
    by_cases h : x.ts ≤ t <;> simp [h]

/-- What a chain says at a mark and above. -/
def Says (mark : Int) (F V : List Vs) : Prop := V.Pairwise (fun x y => y.ts < x.ts) ∧ ∀ t, mark ≤ t → Sub (Vr.at? V t) (Vr.at? F t)

theorem Says.up {mark mark' : Int} {F V : List Vs} (h : Says mark F V) (hm : mark ≤ mark') : Says mark' F V := ⟨h.1, fun t ht => h.2 t (by omega)⟩

/-- What a Prune makes of it: one of four. -/
theorem Says.prune {mark : Int} {F V : List Vs} (h : Says mark F V) : ∃ j, j ≤ V.length ∧ (Vr.prune mark V).kept = V.take j ∧ Says mark F (V.take j) := by
  obtain ⟨j, hj, hk, hs⟩ := kept_take (mark := mark) h.1
  exact ⟨j, hj, hk, h.1.sublist (List.take_sublist _ _), fun t ht => (hs t ht).trans (h.2 t ht)⟩

end Go.Proofs.Ytbdcdiihaecheaa

namespace Go.Proofs.Ytbdcdiihaecheaa
open Go.RowKit
set_option linter.unusedVariables false
set_option maxRecDepth 100000
set_option linter.unusedSectionVars false
variable [Inhabited Cl] [Inhabited Ln]

def bg0 : Hp := ⟨Ar.fresh 2, Ar.fresh 4, Ep.fresh, List.replicate 17 Sh.zero⟩
def bg1 : Hp := bg0.setSh 0 ⟨true, 1, 2⟩
def bg2 : Hp := bg1.cellPut 0 ⟨#[97]⟩
def bg3 : Hp := bg2.inst 0 0 ⟨5, ⟨#[120]⟩, false⟩
def bg4 : Hp := bg3.inst 0 0 ⟨7, ⟨#[]⟩, true⟩
def bgl : List Ln := [⟨7, ⟨#[]⟩, true, 0, 1⟩, ⟨5, ⟨#[120]⟩, false, 0, 0⟩]
def bg5 : Hp := bg4.setC 0 { (slAt bg4.c.us 0).val with closed := true }

theorem bg0_fit : bg0.Fit := ⟨of_decide_eq_true rfl, of_decide_eq_true rfl⟩
theorem bg1_has : (shAt bg1.sh 0).has = true := rfl
theorem bg1_c : (shAt bg1.sh 0).c = 1 := rfl
theorem bg2_has : (shAt bg2.sh 0).has = true := rfl
theorem bg2_good : bg2.c.Good 0 1 := ⟨of_decide_eq_true rfl, of_decide_eq_true rfl, rfl, rfl⟩
theorem bg3_good : bg3.c.Good 0 1 := ⟨of_decide_eq_true rfl, of_decide_eq_true rfl, rfl, rfl⟩
theorem bg4_good : bg4.c.Good 0 1 := ⟨of_decide_eq_true rfl, of_decide_eq_true rfl, rfl, rfl⟩
theorem bg5_good : bg5.c.Good 0 1 := ⟨of_decide_eq_true rfl, of_decide_eq_true rfl, rfl, rfl⟩
theorem bg2_chn : Chn bg2.v (slAt bg2.c.us (0 : Int).toNat).val.s (slAt bg2.c.us (0 : Int).toNat).val.g [] := ⟨rfl, rfl⟩
theorem bg3_chn : Chn bg3.v (slAt bg3.c.us (0 : Int).toNat).val.s (slAt bg3.c.us (0 : Int).toNat).val.g [⟨5, ⟨#[120]⟩, false, 0, 0⟩] := ⟨⟨⟨of_decide_eq_true rfl, of_decide_eq_true rfl, rfl, rfl⟩, of_decide_eq_true rfl, rfl⟩, rfl, rfl⟩
theorem bg4_chn : Chn bg4.v (slAt bg4.c.us (0 : Int).toNat).val.s (slAt bg4.c.us (0 : Int).toNat).val.g bgl := ⟨⟨⟨of_decide_eq_true rfl, of_decide_eq_true rfl, rfl, rfl⟩, of_decide_eq_true rfl, rfl⟩, ⟨⟨of_decide_eq_true rfl, of_decide_eq_true rfl, rfl, rfl⟩, of_decide_eq_true rfl, rfl⟩, rfl, rfl⟩
theorem bg5_chn : Chn bg5.v (slAt bg5.c.us (0 : Int).toNat).val.s (slAt bg5.c.us (0 : Int).toNat).val.g bgl := bg4_chn

theorem emp_nil : (⟨#[]⟩ : ByteArray).toList = [] := (list_nil_iff _).2 rfl
theorem bg_put1 : Vr.putE [] ⟨5, ⟨#[120]⟩, false⟩ = 0 := (Vr.putE_nil (by rw [Vr.fits_in (of_decide_eq_true rfl) (of_decide_eq_true rfl) (of_decide_eq_true rfl)]; rfl)).1
theorem bg_fits : Vr.fits ⟨7, ⟨#[]⟩, true⟩ = true := by
  rw [Vr.fits_in (of_decide_eq_true rfl) (of_decide_eq_true rfl) (of_decide_eq_true rfl)]
  show (!(true && !((⟨#[]⟩ : ByteArray).toList == []))) = true
  rw [emp_nil]
  rfl
theorem bg_put2 : Vr.putE [⟨5, ⟨#[120]⟩, false⟩] ⟨7, ⟨#[]⟩, true⟩ = 0 := (Vr.putE_ok bg_fits (x := ⟨5, ⟨#[120]⟩, false⟩) rfl (of_decide_eq_true rfl) (of_decide_eq_true rfl)).1
theorem bg_at : Vr.at? (bgl.map Ln.ver) 6 = some ⟨5, ⟨#[120]⟩, false⟩ := rfl
theorem bg_prune : (Vr.prune 7 (bgl.map Ln.ver)).kept = [] := rfl

end Go.Proofs.Ytbdcdiihaecheaa

namespace Go.Proofs.Ytbdcdiihaecheaa
open Go.RowKit
set_option linter.unusedVariables false
set_option maxRecDepth 100000
set_option linter.unusedSectionVars false
variable [Inhabited Cl] [Inhabited Ln]

set_option maxHeartbeats 4000000 in
theorem hbegun_any (w : World) : Calls Try.prog 9 #[] w fun e w' => e = .returned (.bool true) ∧ Below w.heap.size w w' := by
  obtain ⟨cs, hcs⟩ : ∃ cs : Int, cs = 0 := ⟨_, rfl⟩
  obtain ⟨cg, hcg⟩ : ∃ cg : Int, cg = 1 := ⟨_, rfl⟩
  have HCS : Hid (cs = 0 ∧ cg = 1) := ⟨hcs, hcg⟩
  obtain ⟨vd, hvd⟩ : ∃ vd : Bool, vd = false := ⟨_, rfl⟩
  have HVD : Hid (vd = false) := hvd
  clear hcs hcg hvd
  go_enter Try.func9, Try.ntmps9
  go_wp2_with fail
  refine (new_any w).mono ?_
  rintro e w1 ⟨rfl, he1, hb1, hz1⟩
  have HNEW : Hid (Calls Try.prog 8 #[.int .i64 2, .int .i64 4, .pointer (some ⟨w.heap.size, 0, none⟩)] w1 fun r w' => r = .returned (.tuple #[.pointer (some ⟨w.heap.size + 3, 0, none⟩), .int .i64 0]) ∧ Hpn w.heap.size w' (w.heap.size + 3) (w.heap.size + 1) (w.heap.size + 2) w.heap.size bg0 [] ∧ Below w.heap.size w w') := by
    refine (hnew_any he1 2 4 (of_decide_eq_true rfl) (of_decide_eq_true rfl) (of_decide_eq_true rfl) (of_decide_eq_true rfl)).mono ?_
    rintro r w' ⟨rfl, hc, hv, hk, hb, hz⟩
    rw [hz1] at hc hv hk hz
    refine ⟨by rw [hz1], ⟨[w.heap.size + 1], [w.heap.size + 2], [w.heap.size], { blk := hk, c := hc, v := hv, e := he1.tn (Tn.of_below hb []) (by simp), s17 := by simp [bg0], mH := by omega, mc := by simp, mv := by simp, me := by simp, Hc := by simp, Hv := by simp, He := by simp, cv := by simp, ce := by simp, ve := by simp, av := by simp }⟩, hb1.trans (hb.mono hb1.size)⟩
  clear he1 hb1 hz1
  go_wp2_with fail
  refine HNEW.out.mono ?_
  rintro e w2 ⟨rfl, hh2, hb2⟩
  have HK2 : Hid (Hpn w.heap.size w2 (w.heap.size + 3) (w.heap.size + 1) (w.heap.size + 2) w.heap.size bg0 [] ∧ Below w.heap.size w w2) := ⟨hh2, hb2⟩
  have HRES : Hid (Calls Try.prog 10 #[.pointer (some ⟨w.heap.size + 3, 0, none⟩), .int .i64 0, .int .i64 1, .int .i64 2] w2 fun e w' => e = .returned (.int .i64 0) ∧ AftH w.heap.size w2 w' (w.heap.size + 3) (w.heap.size + 1) (w.heap.size + 2) w.heap.size bg1 []) := reserve_ok hh2 bg0_fit 0 1 2 (of_decide_eq_true rfl) rfl (of_decide_eq_true rfl) (of_decide_eq_true rfl)
  clear hh2 hb2 HNEW
  obtain ⟨H, hH⟩ : ∃ H, w.heap.size + 3 = H := ⟨_, rfl⟩
  rw [hH] at HK2 HRES
  go_wp2_with fail
  refine HRES.out.mono ?_
  rintro e w3 ⟨rfl, ha3⟩
  have HK3 : Hid (Hpn w.heap.size w3 H (w.heap.size + 1) (w.heap.size + 2) w.heap.size bg1 [] ∧ Below w.heap.size w w3) := ⟨ha3.1, HK2.out.2.trans ha3.2.1⟩
  have HCL : Hid (Calls Try.prog 12 #[.pointer (some ⟨H, 0, none⟩), .int .i64 0, .string ⟨#[97]⟩] w3 fun e w' => e = .returned (.tuple #[.agg #[.int .i64 cs, .int .i64 cg], .int .i64 0]) ∧ AftH w.heap.size w3 w' H (w.heap.size + 1) (w.heap.size + 2) w.heap.size bg2 []) := by
    rw [HCS.out.1, HCS.out.2]
    exact cell_ok HK3.out.1 0 ⟨#[97]⟩ (of_decide_eq_true rfl) rfl ⟨of_decide_eq_true rfl, of_decide_eq_true rfl⟩ (of_decide_eq_true rfl) (of_decide_eq_true rfl) (of_decide_eq_true rfl) (of_decide_eq_true rfl) (of_decide_eq_true rfl)
  clear ha3 HRES
  go_wp2_with fail
  refine HCL.out.mono ?_
  rintro e w4 ⟨rfl, ha4⟩
  obtain ⟨B, hB⟩ : ∃ B, w4.heap.size = B := ⟨_, rfl⟩
  obtain ⟨w5, hw5, hk5, t45⟩ : ∃ w5, w4.alloc (.cells #[.int .i64 cs, .int .i64 cg] 36) = w5 ∧ Bk w5 B 36 #[.int .i64 cs, .int .i64 cg] ∧ Tn [] w4 w5 := ⟨_, rfl, by rw [← hB]; exact Bk.new _ _ _, (Tn.refl _ _).alloc _⟩
  have hb4 : Below w.heap.size w w4 := HK3.out.2.trans ha4.2.1
  have HK5 : Hid (Hpn w.heap.size w5 H (w.heap.size + 1) (w.heap.size + 2) w.heap.size bg2 [B] ∧ Below w.heap.size w w5 ∧ Bk w5 B 36 #[.int .i64 cs, .int .i64 cg]) := ⟨ha4.1.add t45 (Nat.le_of_eq hB) hk5.lt, hb4.trans (t45.below ha4.1.ge (by simp)), hk5⟩
  have a0 : w5.cell? ⟨B, 0, none⟩ = some (.int .i64 cs) := hk5.cell 0
  have a1 : w5.cell? ⟨B, 1, none⟩ = some (.int .i64 cg) := hk5.cell 1
  have HI1 : Hid (Calls Try.prog 13 #[.pointer (some ⟨H, 0, none⟩), .int .i64 0, .agg #[.int .i64 cs, .int .i64 cg], .agg #[.int .i64 5, .string ⟨#[120]⟩, .bool false]] w5 fun e w' => e = .returned (.int .i64 0) ∧ AftH w.heap.size w5 w' H (w.heap.size + 1) (w.heap.size + 2) w.heap.size bg3 [B]) := by
    rw [HCS.out.1, HCS.out.2]
    exact install_ok HK5.out.1 0 (of_decide_eq_true rfl) rfl 0 1 bg2_good ⟨5, ⟨#[120]⟩, false⟩ [] bg2_chn (of_decide_eq_true rfl) rfl (of_decide_eq_true rfl) bg_put1 (of_decide_eq_true rfl) (of_decide_eq_true rfl) (of_decide_eq_true rfl) (of_decide_eq_true rfl) (of_decide_eq_true rfl)
  clear ha4 hk5 t45 hb4 HCL
  go_wp2_with fail
  refine HI1.out.mono ?_
  rintro e w6 ⟨rfl, ha6⟩
  have HK6 : Hid (Hpn w.heap.size w6 H (w.heap.size + 1) (w.heap.size + 2) w.heap.size bg3 [B] ∧ Below w.heap.size w w6 ∧ Bk w6 B 36 #[.int .i64 cs, .int .i64 cg]) := ⟨ha6.1, HK5.out.2.1.trans ha6.2.1, ha6.blk (by simp) HK5.out.2.2⟩
  have b0 : w6.cell? ⟨B, 0, none⟩ = some (.int .i64 cs) := HK6.out.2.2.cell 0
  have b1 : w6.cell? ⟨B, 1, none⟩ = some (.int .i64 cg) := HK6.out.2.2.cell 1
  have HI2 : Hid (Calls Try.prog 13 #[.pointer (some ⟨H, 0, none⟩), .int .i64 0, .agg #[.int .i64 cs, .int .i64 cg], .agg #[.int .i64 7, .string ⟨#[]⟩, .bool true]] w6 fun e w' => e = .returned (.int .i64 0) ∧ AftH w.heap.size w6 w' H (w.heap.size + 1) (w.heap.size + 2) w.heap.size bg4 [B]) := by
    rw [HCS.out.1, HCS.out.2]
    exact install_ok HK6.out.1 0 (of_decide_eq_true rfl) rfl 0 1 bg3_good ⟨7, ⟨#[]⟩, true⟩ [⟨5, ⟨#[120]⟩, false, 0, 0⟩] bg3_chn (of_decide_eq_true rfl) rfl (of_decide_eq_true rfl) bg_put2 (of_decide_eq_true rfl) (of_decide_eq_true rfl) (of_decide_eq_true rfl) (of_decide_eq_true rfl) (of_decide_eq_true rfl)
  clear ha6 a0 a1 HI1
  go_wp2_with fail
  refine HI2.out.mono ?_
  rintro e w7 ⟨rfl, ha7⟩
  have HK7 : Hid (Hpn w.heap.size w7 H (w.heap.size + 1) (w.heap.size + 2) w.heap.size bg4 [B] ∧ Below w.heap.size w w7 ∧ Bk w7 B 36 #[.int .i64 cs, .int .i64 cg]) := ⟨ha7.1, HK6.out.2.1.trans ha7.2.1, ha7.blk (by simp) HK6.out.2.2⟩
  have c0 : w7.cell? ⟨B, 0, none⟩ = some (.int .i64 cs) := HK7.out.2.2.cell 0
  have c1 : w7.cell? ⟨B, 1, none⟩ = some (.int .i64 cg) := HK7.out.2.2.cell 1
  have HRD : Hid (Calls Try.prog 15 #[.pointer (some ⟨H, 0, none⟩), .agg #[.int .i64 cs, .int .i64 cg], .int .i64 6] w7 fun e w' => e = .returned (.tuple #[.agg #[.int .i64 5, .string ⟨#[120]⟩, .bool vd], .bool true, .int .i64 0]) ∧ Below w7.heap.size w7 w') := by
    have := read_good HK7.out.1 0 1 6 bg4_good bgl bg4_chn (of_decide_eq_true rfl)
    rw [bg_at] at this
    rw [HCS.out.1, HCS.out.2, HVD.out]
    exact this
  clear ha7 b0 b1 HI2
  go_wp2_with fail
  refine HRD.out.mono ?_
  rintro e w8 ⟨rfl, hb8⟩
  obtain ⟨D, hD⟩ : ∃ D, w8.heap.size = D := ⟨_, rfl⟩
  obtain ⟨w9, hw9, hk9, t89⟩ : ∃ w9, w8.alloc (.cells #[.int .i64 5, .string ⟨#[120]⟩, .bool vd] 34) = w9 ∧ Bk w9 D 34 #[.int .i64 5, .string ⟨#[120]⟩, .bool vd] ∧ Tn [] w8 w9 := ⟨_, rfl, by rw [← hD]; exact Bk.new _ _ _, (Tn.refl _ _).alloc _⟩
  have hh8 := HK7.out.1.below hb8
  have hb78 : Below w.heap.size w w8 := HK7.out.2.1.trans (hb8.mono HK7.out.2.1.size)
  have HK9 : Hid (Hpn w.heap.size w9 H (w.heap.size + 1) (w.heap.size + 2) w.heap.size bg4 [D, B] ∧ Below w.heap.size w w9 ∧ Bk w9 B 36 #[.int .i64 cs, .int .i64 cg] ∧ Bk w9 D 34 #[.int .i64 5, .string ⟨#[120]⟩, .bool vd]) := ⟨hh8.add t89 (Nat.le_of_eq hD) hk9.lt, hb78.trans (t89.below hh8.ge (by simp)), (HK7.out.2.2.tn (Tn.of_below hb8 []) (by simp)).tn t89 (by simp), hk9⟩
  have d0 : w9.cell? ⟨B, 0, none⟩ = some (.int .i64 cs) := HK9.out.2.2.1.cell 0
  have d1 : w9.cell? ⟨B, 1, none⟩ = some (.int .i64 cg) := HK9.out.2.2.1.cell 1
  have HPR : Hid (Calls Try.prog 14 #[.pointer (some ⟨H, 0, none⟩), .agg #[.int .i64 cs, .int .i64 cg], .int .i64 7] w9 fun e w' => e = .returned (.tuple #[.int .i64 0, .bool true, .int .i64 0]) ∧ AftH w.heap.size w9 w' H (w.heap.size + 1) (w.heap.size + 2) w.heap.size bg5 [D, B]) := by
    rw [HCS.out.1, HCS.out.2]
    exact prune_shut HK9.out.1 0 1 7 bg4_good bgl bg4_chn (of_decide_eq_true rfl) (of_decide_eq_true rfl) rfl bg_prune
  clear hb8 hk9 t89 hh8 hb78 c0 c1 HRD
  go_wp2_with fail
  refine HPR.out.mono ?_
  rintro e w10 ⟨rfl, ha10⟩
  have HK10 : Hid (Hpn w.heap.size w10 H (w.heap.size + 1) (w.heap.size + 2) w.heap.size bg5 [D, B] ∧ Below w.heap.size w w10) := ⟨ha10.1, HK9.out.2.1.trans ha10.2.1⟩
  have kB := ha10.blk (by simp) HK9.out.2.2.1
  have kD := ha10.blk (by simp) HK9.out.2.2.2
  have e0 : w10.cell? ⟨B, 0, none⟩ = some (.int .i64 cs) := kB.cell 0
  have e1 : w10.cell? ⟨B, 1, none⟩ = some (.int .i64 cg) := kB.cell 1
  have e2 : w10.cell? ⟨D, 1, none⟩ = some (.string ⟨#[120]⟩) := kD.cell 1
  have HRT : Hid (Calls Try.prog 18 #[.pointer (some ⟨H, 0, none⟩), .agg #[.int .i64 cs, .int .i64 cg]] w10 fun e w' => e = .returned (.int .i64 0) ∧ ∃ h6, (h6.e.now = 1 ∧ h6.e.old.length + h6.e.cur.length = 3) ∧ AftH w.heap.size w10 w' H (w.heap.size + 1) (w.heap.size + 2) w.heap.size h6 [D, B]) := by
    rw [HCS.out.1, HCS.out.2]
    refine (retire_good HK10.out.1 0 1 bg5_good bgl bg5_chn (of_decide_eq_true rfl) (of_decide_eq_true rfl) rfl (of_decide_eq_true rfl)).mono ?_
    rintro e w' ⟨he, ha⟩
    exact ⟨he, _, ⟨rfl, rfl⟩, ha⟩
  clear ha10 d0 d1 HPR kB kD
  go_wp2_with fail
  refine HRT.out.mono ?_
  rintro e w11 ⟨rfl, h6, h6e, ha11⟩
  have HWT : Hid (Calls Try.prog 24 #[.pointer (some ⟨w.heap.size, 0, none⟩)] w11 fun r w' => r = .returned (.int .i64 3) ∧ Below w.heap.size w w') := by
    obtain ⟨cb, vb, eb, hI⟩ := ha11.1
    obtain ⟨vs, -, hE⟩ := hI.e
    refine (waiting_any hE (by omega) (by omega)).mono ?_
    rintro r w' ⟨rfl, k, rfl⟩
    rw [h6e.2]
    exact ⟨rfl, below_drewN (HK10.out.2.trans ha11.2.1) _⟩
  clear ha11 h6e HRT
  go_wp2_with fail
  refine HWT.out.mono ?_
  rintro e w12 ⟨rfl, hb12⟩
  have HB12 : Hid (Below w.heap.size w w12) := hb12
  clear hb12
  go_wp2
  go_ret
  exact ⟨rfl, HB12.out⟩

end Go.Proofs.Ytbdcdiihaecheaa

namespace Go.Proofs.Ytbdcdiihaecheaa
open Go.ChangeShapes Go.WideShapes Go.ChangeAt Go.RowKit
open Go.ChangeMaps (open_string shut_string)
set_option linter.unusedVariables false
set_option maxRecDepth 100000

theorem own : ownKnob Try.prog.godebug = none := by kernel_rfl
theorem laidOut : laidOutB Try.prog = true := by kernel_rfl

theorem list2 {α : Type} {l : List α} (h : l.length = 2) : ∃ a b, l = [a, b] := by
  match l, h with
  | [a, b], _ => exact ⟨a, b, rfl⟩
theorem list3 {α : Type} {l : List α} (h : l.length = 3) : ∃ a b c, l = [a, b, c] := by
  match l, h with
  | [a, b, c], _ => exact ⟨a, b, c, rfl⟩
theorem list4 {α : Type} {l : List α} (h : l.length = 4) : ∃ a b c d, l = [a, b, c, d] := by
  match l, h with
  | [a, b, c, d], _ => exact ⟨a, b, c, d, rfl⟩

theorem rcells_at {W : World} {a : Addr} {n : Nat} {cs : List Value} (h : W.cells? 0 a n = some cs) : ∀ j v, cs[j]? = some v → W.cell? (a.add j) = some v := by
  obtain ⟨_, hl, hc⟩ := World.cells?_some h
  intro j v hv
  have hj : j < n := by
    have := (List.getElem?_eq_some_iff.1 hv).1
    omega
  exact (hc j hj).trans hv

/-- Elements that a slice leads to: their cells, k each; the room is at most M. -/
structure InL {α : Type} (cells : α → List Value) (ok : α → Prop) (k M : Nat) (w : World) (p : Option Addr) (len cap : Nat) (l : List α) : Prop where
  lenq : l.length = len
  cel : 0 < len → ∃ b o, p = some ⟨b, o, none⟩ ∧ ∀ (i : Nat) g, l[i]? = some g → ∀ (j : Nat) v, (cells g)[j]? = some v → w.cell? ⟨b, o + i * k + j, none⟩ = some v
  le : len ≤ cap
  room : cap ≤ M
  nil : p = none → len = 0 ∧ cap = 0
  ok : ∀ g ∈ l, ok g

section
variable {α : Type} {cells : α → List Value} {ok : α → Prop} {k M : Nat}

theorem InL.up {w w' : World} {p : Option Addr} {len cap : Nat} {l : List α} (h : InL cells ok k M w p len cap l) (hb : Below w.heap.size w w') : InL cells ok k M w' p len cap l := by
  refine ⟨h.lenq, fun hl => ?_, h.le, h.room, h.nil, h.ok⟩
  obtain ⟨b, o, rfl, hc⟩ := h.cel hl
  refine ⟨b, o, rfl, fun i g hi j v hv => ?_⟩
  have hh := hc i g hi j v hv
  rw [hb.cell (p := ⟨b, o + i * k + j, none⟩) (World.block_lt_of_cell? w _ hh)]
  exact hh

theorem InL.at {w : World} {p : Option Addr} {len cap : Nat} {l : List α} (h : InL cells ok k M w p len cap l) {j : Nat} (hj : j < len) : ∃ b o g, p = some ⟨b, o, none⟩ ∧ l[j]? = some g ∧ ok g ∧ ∀ (i : Nat) v, (cells g)[i]? = some v → w.cell? ⟨b, o + j * k + i, none⟩ = some v := by
  obtain ⟨b, o, rfl, hc⟩ := h.cel (by omega)
  have hjl : j < l.length := by rw [h.lenq]; exact hj
  have hg := List.getElem?_eq_getElem hjl
  exact ⟨b, o, l[j], rfl, hg, h.ok _ (List.getElem_mem hjl), hc j _ hg⟩

theorem in_list [Inhabited α] {H : Type} {enc : TypeId × Value → H} {W : World} {a : Option Addr} {len cap : Nat} {d : DataW H} {p : List MemPlace} {T E : TypeId} {B : Nat}
    (hu : Try.prog.underlying T = some (.slice E)) (ek : Try.prog.cellsOf E = k) (eb : Try.prog.bytesOf E = B) (hB0 : 0 < B) (hM : ∀ n, n * B ≤ 140737488351232 → n ≤ M)
    (elem : ∀ (fuel : Nat) (cs : List Value) (x : DataW H × List MemPlace), DataW.trod enc Try.prog W 0 (fun _ => true) true fuel E cs = some x → ∃ g : α, cs = cells g ∧ ok g)
    (hk : ∀ g : α, 0 < (cells g).length)
    (h : DataW.Trod enc Try.prog W 0 (fun _ => true) true T (.slice a len cap) d p) (hB : ∀ n ∈ d.weights Try.prog T, n ≤ 140737488351232) : ∃ l, InL cells ok k M W a len cap l := by
  obtain ⟨fuel, hf⟩ := h
  rcases Go.Deep.open_slice hu hf with ⟨hcs, _⟩ | ⟨x, l, c, m, n, D, Pl, hcs, _, hl, hm, hmm, hx, hall⟩
  · simp [Value.cells] at hcs
    obtain ⟨rfl, rfl, rfl⟩ := hcs
    exact ⟨[], rfl, fun h => absurd h (Nat.lt_irrefl 0), Nat.le_refl _, Nat.zero_le _, fun _ => ⟨rfl, rfl⟩, by simp⟩
  · simp [Value.cells] at hcs
    obtain ⟨rfl, rfl, rfl⟩ := hcs
    simp only [if_true] at hmm
    subst hmm
    rw [ek] at hall
    simp only [Prod.mk.injEq] at hx
    have hroom : m ≤ M := by
      have := hB ((len + (m - len)) * Try.prog.bytesOf E) (by rw [hx.1, DataW.weights, hu]; simp)
      rw [eb] at this
      rw [show len + (m - len) = m by omega] at this
      exact hM m this
    obtain ⟨G, hG⟩ := Go.Deep.choose_lt (n := len) (α := α) (p := fun i g => W.cells? 0 (x.add (i * k)) k = some (cells g) ∧ ok g) (fun i hi => by
      obtain ⟨cs, h1, h2⟩ := hall i (by omega)
      obtain ⟨g, rfl, h3⟩ := elem _ _ _ h2
      exact ⟨g, h1, h3⟩)
    refine ⟨(List.range len).map G, by simp, fun hpos => ?_, hl, hroom, (fun h => by cases h), ?_⟩
    · have h0 := rcells_at (hG 0 hpos).1 0 _ (List.getElem?_eq_getElem (hk (G 0)))
      obtain ⟨b, off, spot⟩ := x
      have hspot : spot = none := by
        have := World.cell?_spot h0
        simpa [Addr.add] using this
      subst hspot
      refine ⟨b, off, rfl, fun i g hi j v hv => ?_⟩
      have hil : i < len := by
        have := (List.getElem?_eq_some_iff.1 hi).1
        simpa using this
      have hg : g = G i := by simpa [hil] using hi.symm
      subst hg
      have := rcells_at (hG i hil).1 j v hv
      rw [Addr.add_lit, Addr.add_lit] at this
      exact this
    · intro g hg
      obtain ⟨i, hi, rfl⟩ := List.mem_map.1 hg
      exact (hG i (List.mem_range.1 hi)).2
end
end Go.Proofs.Ytbdcdiihaecheaa

namespace Go.Proofs.Ytbdcdiihaecheaa
open Go.ChangeShapes Go.WideShapes Go.ChangeAt Go.RowKit
set_option linter.unusedVariables false
set_option maxRecDepth 100000

theorem bytes_bool : Try.prog.bytesOf 4 = 1 := by kernel_rfl
theorem bytes_u8 : Try.prog.bytesOf 5 = 1 := by kernel_rfl

/-- A slice of bools that came in. -/
structure InK (w : World) (p : Option Addr) (len cap : Nat) (ks : List Bool) : Prop where
  lenq : ks.length = len
  bls : 0 < ks.length → ∃ b o, p = some ⟨b, o, none⟩ ∧ ∀ i, i < ks.length → w.cell? ⟨b, o + i, none⟩ = some (.bool (ks.getD i false))
  le : len ≤ cap
  room : cap ≤ 140737488351232
  nil : p = none → len = 0 ∧ cap = 0

theorem in_bools {H : Type} {enc : TypeId × Value → H} {W : World} {a : Option Addr} {len cap : Nat} {d : DataW H} {p : List MemPlace}
    (h : DataW.Trod enc Try.prog W 0 (fun _ => true) true 45 (.slice a len cap) d p) (hB : ∀ elems spare, d = .slice elems spare → elems.length + spare.length ≤ 140737488351232) : ∃ ks, InK W a len cap ks := by
  obtain ⟨fuel, hf⟩ := h
  rcases Go.Deep.open_bools Try.underlying45 Try.underlying4 (by kernel_rfl) hf with ⟨hcs, _⟩ | ⟨x, l, c, Z, hcs, _, hl, hm, hx, hcell⟩
  · simp [Value.cells] at hcs
    obtain ⟨rfl, rfl, rfl⟩ := hcs
    exact ⟨[], rfl, fun h => by simp at h, Nat.le_refl _, Nat.zero_le _, fun _ => ⟨rfl, rfl⟩⟩
  · simp [Value.cells] at hcs
    obtain ⟨rfl, rfl, rfl⟩ := hcs
    simp only [Prod.mk.injEq] at hx
    have hb := hB _ _ hx.1
    simp only [List.length_map, List.length_range] at hb
    refine ⟨(List.range len).map Z, by simp, ?_, hl, by omega, (fun e => by cases e)⟩
    intro hpos
    simp at hpos
    have h0 := hcell 0 (by omega)
    obtain ⟨b, off, spot⟩ := x
    have hspot : spot = none := by simpa [Addr.add] using World.cell?_spot h0
    subst hspot
    refine ⟨b, off, rfl, fun i hi => ?_⟩
    simp at hi
    have := hcell i (by omega)
    rw [Addr.add_lit] at this
    rw [this]
    simp [List.getD, hi]

theorem InK.below {w w' : World} {p : Option Addr} {len cap : Nat} {ks : List Bool} (h : InK w p len cap ks) (hb : Below w.heap.size w w') : InK w' p len cap ks := by
  refine ⟨h.lenq, fun hl => ?_, h.le, h.room, h.nil⟩
  obtain ⟨b, o, rfl, hc⟩ := h.bls hl
  exact ⟨b, o, rfl, fun i hi => (hb.cell (p := ⟨b, o + i, none⟩) (World.block_lt_of_cell? w _ (hc i hi))).trans (hc i hi)⟩

/-- A slice of bytes that came in: at most B bytes of room. -/
structure InB (B : Nat) (w : World) (p : Option Addr) (len cap : Nat) (xs : List Int) : Prop where
  lenq : xs.length = len
  bys : 0 < xs.length → ∃ b o, p = some ⟨b, o, none⟩ ∧ ∀ i, i < xs.length → w.cell? ⟨b, o + i, none⟩ = some (.int .u8 (xs.getD i 0))
  le : len ≤ cap
  room : cap ≤ B
  nil : p = none → len = 0 ∧ cap = 0
  byte : ∀ y ∈ xs, 0 ≤ y ∧ y < 256

theorem in_bytes {H : Type} {enc : TypeId × Value → H} {W : World} {a : Option Addr} {len cap : Nat} {d : DataW H} {p : List MemPlace} {B : Nat}
    (h : DataW.Trod enc Try.prog W 0 (fun _ => true) true 44 (.slice a len cap) d p) (hB : ∀ elems spare, d = .slice elems spare → elems.length + spare.length ≤ B) : ∃ xs, InB B W a len cap xs := by
  obtain ⟨fuel, hf⟩ := h
  rcases open_ints Try.underlying44 Try.underlying5 (by kernel_rfl) hf with ⟨hcs, _⟩ | ⟨x, l, c, zs, hcs, _, hl, hm, hz, hx, hcell, hwz⟩
  · simp [Value.cells] at hcs
    obtain ⟨rfl, rfl, rfl⟩ := hcs
    exact ⟨[], rfl, fun h => by simp at h, Nat.le_refl _, Nat.zero_le _, fun _ => ⟨rfl, rfl⟩, by simp⟩
  · simp [Value.cells] at hcs
    obtain ⟨rfl, rfl, rfl⟩ := hcs
    simp only [Prod.mk.injEq] at hx
    have hb := hB _ _ hx.1
    simp only [lits, List.length_map, List.length_take, List.length_drop] at hb
    simp only [if_true] at hz
    refine ⟨zs.take len, by simp; omega, ?_, hl, by omega, (fun e => by cases e), ?_⟩
    · intro hpos
      simp at hpos
      have h0 := hcell 0 (by omega)
      obtain ⟨b, off, spot⟩ := x
      have hspot : spot = none := by simpa [Addr.add] using World.cell?_spot h0
      subst hspot
      refine ⟨b, off, rfl, fun i hi => ?_⟩
      simp at hi
      have := hcell i (by omega)
      rw [Addr.add_lit] at this
      rw [this]
      simp [List.getD, show i < len by omega]
    · intro y hy
      have := bounds_u8 (hwz y (List.mem_of_mem_take hy))
      omega

theorem InB.below {B : Nat} {w w' : World} {p : Option Addr} {len cap : Nat} {xs : List Int} (h : InB B w p len cap xs) (hb : Below w.heap.size w w') : InB B w' p len cap xs := by
  refine ⟨h.lenq, fun hl => ?_, h.le, h.room, h.nil, h.byte⟩
  obtain ⟨b, o, rfl, hc⟩ := h.bys hl
  exact ⟨b, o, rfl, fun i hi => (hb.cell (p := ⟨b, o + i, none⟩) (World.block_lt_of_cell? w _ (hc i hi))).trans (hc i hi)⟩

end Go.Proofs.Ytbdcdiihaecheaa

namespace Go.Proofs.Ytbdcdiihaecheaa
open Go.RowKit
set_option linter.unusedVariables false
set_option maxRecDepth 100000
set_option linter.unusedSectionVars false
variable [Inhabited Cl] [Inhabited Ln]

variable {m : Nat} {w w0 w1 w2 w' : World} {H cB vB eB : Nat} {h h' : Hp} {av L L' : List Nat}

/-- Own blocks have turned and come, others are new. -/
theorem MidH.turn {S : List Nat} (k : MidH m w L w1 H cB vB eB h av) (t : Tn S w1 w2) (hS : ∀ x ∈ S, x ∈ L ∨ w1.heap.size ≤ x) (hL : ∀ x ∈ L', x ∈ L ∨ w1.heap.size ≤ x) (hlt : ∀ x ∈ L', x < w2.heap.size) : MidH m w L' w2 H cB vB eB h av := by
  have hz := k.2.1.size
  have hz2 := t.size
  have hm := k.2.2.2.2
  have hS' : ∀ x ∈ S, w.heap.size ≤ x := fun x hx => by
    rcases hS x hx with h1 | h1
    · exact k.2.2.2.1 x h1
    · omega
  refine ⟨k.1.grow t (fun x hx => ?_) (fun x hx => ?_) (fun x hx => ?_), k.2.1.trans (t.below (by omega) (fun x hx => by have := hS' x hx; omega)), fun g hg => ⟨(k.2.2.1 g hg).1, (t.block g (by have := (k.2.2.1 g hg).1; omega) (fun hx => by have := hS' g hx; have := (k.2.2.1 g hg).1; omega)).trans (k.2.2.1 g hg).2⟩, fun x hx => ?_, hm⟩
  · rcases hS x hx with h1 | h1
    · exact .inl (List.mem_append.2 (.inl h1))
    · exact .inr h1
  · rcases List.mem_append.1 hx with hx | hx
    · rcases hL x hx with h1 | h1
      · exact .inl (List.mem_append.2 (.inl h1))
      · exact .inr h1
    · exact .inl (List.mem_append.2 (.inr hx))
  · rcases List.mem_append.1 hx with hx | hx
    · exact hlt x hx
    · have := (k.2.2.1 x hx).1; omega
  · rcases hL x hx with h1 | h1
    · exact k.2.2.2.1 x h1
    · omega

def nd0 : Hp := ⟨Ar.fresh 1, Ar.fresh 60, Ep.fresh, List.replicate 17 Sh.zero⟩
def nd1 : Hp := nd0.setSh 0 ⟨true, 1, 50⟩
def nd2 : Hp := nd1.cellPut 0 ⟨#[97]⟩
theorem nd0_fit : nd0.Fit := ⟨of_decide_eq_true rfl, of_decide_eq_true rfl⟩
theorem nd2_nd : Nd nd2 0 false [] where
  cell := ⟨⟨of_decide_eq_true rfl, of_decide_eq_true rfl, rfl, rfl⟩, ⟨rfl, rfl⟩, rfl⟩
  s17 := rfl
  sh := rfl
  lv := rfl
  sz := rfl
  gens := Gens.nil _
  st := ⟨rfl, rfl⟩
  cu := Nat.le_refl _
  n5 := Nat.zero_le _

theorem enc_size (r : Int) : (Utf8.encode r).size ≤ 256 := by
  unfold Utf8.encode
  dsimp only
  generalize (if Utf8.valid r = true then r.toNat else Utf8.runeError) = c
  split
  · show (1 : Nat) ≤ 256; omega
  · split
    · show (2 : Nat) ≤ 256; omega
    · split
      · show (3 : Nat) ≤ 256; omega
      · show (4 : Nat) ≤ 256; omega

theorem own_blk {α : Type} {cells : α → List Value} {k : Nat} {t : TypeId} {base : Nat} {v : Value} {l : List α} (h : Own cells k t w base v l) (hb : ∀ g, v.ownBlock = some g → w'.heap[g]? = w.heap[g]?) : Own cells k t w' base v l := by
  refine ⟨h.1, ?_⟩
  rcases h.2 with hv | ⟨g, cap, cur, hv, hb', hgg, rest⟩
  · exact .inl hv
  · exact .inr ⟨g, cap, cur, hv, hb', (hb g (by rw [hv]; rfl)).trans hgg, rest⟩

/-- The state of the walk: the heap, the cell's box, a row of versions; X: further blocks of its own. -/
structure Ns (m : Nat) (w0 wr : World) (H cB vB eB B : Nat) (cs cg : Int) (X : List Nat) (v : Value) (h : Hp) (R : List Vs) : Prop where
  mid : MidH m w0 (B :: (v.ownBlock.toList ++ X)) wr H cB vB eB h []
  box : Bk wr B 36 #[.int .i64 cs, .int .i64 cg]
  own : Own Vs.cells 3 34 wr (B + 1) v R

variable {wr : World} {B : Nat} {cs cg T : Int} {v : Value} {R : List Vs} {X : List Nat}

theorem Ns.quiet (k : Ns m w0 wr H cB vB eB B cs cg X v h R) (t : Tn [] wr w1) : Ns m w0 w1 H cB vB eB B cs cg X v h R :=
  ⟨k.mid.quiet t, k.box.tn t (by simp), k.own.tn t (by simp)⟩

theorem Ns.below (k : Ns m w0 wr H cB vB eB B cs cg X v h R) (hb : Below wr.heap.size wr w1) : Ns m w0 w1 H cB vB eB B cs cg X v h R := k.quiet (Tn.of_below hb [])

theorem Ns.lt (k : Ns m w0 wr H cB vB eB B cs cg X v h R) : (∀ g ∈ X, g < wr.heap.size) ∧ B < wr.heap.size ∧ ∀ g, v.ownBlock = some g → g < wr.heap.size := by
  have h1 := k.mid.1.avlt
  refine ⟨fun g hg => h1 g (by simp [hg]), h1 B (by simp), fun g hg => h1 g (by simp [hg])⟩

/-- Something new of the walk's own. -/
theorem Ns.add {g : Nat} (k : Ns m w0 wr H cB vB eB B cs cg X v h R) (t : Tn [] wr w1) (hg : wr.heap.size ≤ g) (hg' : g < w1.heap.size) : Ns m w0 w1 H cB vB eB B cs cg (g :: X) v h R := by
  refine ⟨k.mid.new t (fun x hx => ?_) (fun x hx => ?_), k.box.tn t (by simp), k.own.tn t (by simp)⟩
  · simp only [List.mem_cons, List.mem_append] at hx ⊢
    rcases hx with rfl | hx | rfl | hx
    · exact .inl (.inl rfl)
    · exact .inl (.inr (.inl hx))
    · exact .inr hg
    · exact .inl (.inr (.inr hx))
  · have h1 := k.mid.1.avlt
    have h2 := t.size
    simp only [List.mem_cons, List.mem_append] at hx h1
    rcases hx with rfl | hx | rfl | hx
    · have := h1 x (.inl (.inl rfl)); omega
    · have := h1 x (.inl (.inr (.inl hx))); omega
    · exact hg'
    · have := h1 x (.inl (.inr (.inr hx))); omega

/-- What is the walk's own turns. -/
theorem Ns.own1 {S : List Nat} (k : Ns m w0 wr H cB vB eB B cs cg X v h R) (t : Tn S wr w1) (hS : ∀ x ∈ S, x ∈ X) (hv : ∀ x ∈ S, v.ownBlock ≠ some x ∧ x ≠ B) : Ns m w0 w1 H cB vB eB B cs cg X v h R :=
  ⟨k.mid.own (t.mono (fun x hx => by simp [hS x hx])), k.box.tn t (fun hb => (hv B hb).2 rfl), k.own.tn t (fun g hg hm => (hv g hm).1 hg)⟩

/-- What is the walk's own is forgotten. -/
theorem Ns.drop (k : Ns m w0 wr H cB vB eB B cs cg X v h R) : Ns m w0 wr H cB vB eB B cs cg [] v h R :=
  { k with mid := k.mid.sub (fun x hx => by simp only [List.mem_cons, List.mem_append, List.not_mem_nil, or_false] at hx ⊢; rcases hx with h | h; exact .inl h; exact .inr (.inl h)) }

theorem Ns.call {h2 : Hp} (k : Ns m w0 wr H cB vB eB B cs cg X v h R) (a : AftH m wr w1 H cB vB eB h2 (B :: (v.ownBlock.toList ++ X) ++ [])) : Ns m w0 w1 H cB vB eB B cs cg X v h2 R :=
  ⟨k.mid.call a, a.blk (by simp) k.box, own_blk k.own (fun g hg => a.2.2 g (by simp [hg]))⟩

/-- One more in the row. -/
theorem Ns.app {v' : Value} {R' : List Vs} {cs' : Array Value} {e : TypeId} (k : Ns m w0 wr H cB vB eB B cs cg X v h R) (h1 : Own Vs.cells 3 34 w1 (B + 1) v' R') (h2 : (wr.alloc (.cells cs' e)).grownBy w1 v.ownBlock) (h3 : v'.ownBlock = v.ownBlock ∨ v'.ownBlock = some (wr.heap.size + 1)) : Ns m w0 w1 H cB vB eB B cs cg [] v' h R' := by
  have t1 : Tn v.ownBlock.toList wr w1 := ((Tn.refl v.ownBlock.toList wr).alloc (.cells cs' e)).trans (grown_tn h2) (fun x hx => .inl hx)
  have hBv : v.ownBlock ≠ some B := fun e => by have := (k.own.blk e).1; omega
  have h9 := k.lt
  refine ⟨k.mid.turn t1 (fun x hx => .inl (by simp [opt_toList.1 hx])) (fun x hx => ?_) (fun x hx => ?_), k.box.tn t1 (fun hm => hBv (opt_toList.1 hm)), h1⟩
  · simp only [List.mem_cons, List.mem_append, List.not_mem_nil, or_false] at hx
    rcases hx with rfl | hx
    · exact .inl (by simp)
    · have hx := opt_toList.1 hx
      rcases h3 with h3 | h3
      · exact .inl (by rw [h3] at hx; simp [hx])
      · rw [h3] at hx; cases hx; exact .inr (by omega)
  · simp only [List.mem_cons, List.mem_append, List.not_mem_nil, or_false] at hx
    rcases hx with rfl | hx
    · have := t1.size; omega
    · exact (h1.blk (opt_toList.1 hx)).2

/-- What was put: falling, not above a time. -/
structure Fs (F : List Vs) (j : Nat) (T : Int) : Prop where
  len : F.length = j
  up : ∀ x ∈ F, x.ts ≤ T
  falls : F.Pairwise fun x y => y.ts < x.ts
  t0 : 0 ≤ T
  t1 : T ≤ 4 * (j : Int)

theorem Fs.cons {F : List Vs} {j : Nat} {T : Int} (k : Fs F j T) (x : Vs) (h1 : T < x.ts) (h2 : x.ts ≤ T + 4) : Fs (x :: F) (j + 1) x.ts where
  len := by simp [k.len]
  up := fun y hy => by
    rcases List.mem_cons.1 hy with rfl | hy
    · omega
    · have := k.up y hy; omega
  falls := List.pairwise_cons.2 ⟨fun y hy => by have := k.up y hy; omega, k.falls⟩
  t0 := by have := k.t0; omega
  t1 := by have := k.t1; omega

theorem Fs.put {F : List Vs} {j : Nat} {T : Int} (k : Fs F j T) (x : Vs) (hj : j < 50) (h1 : T < x.ts) (h2 : x.ts ≤ T + 4) (hv : x.val.size ≤ 256) (hd : x.del = true → x.val = ⟨#[]⟩) : Vr.putE F x = 0 := by
  have hf : Vr.fits x = true := by
    have a := k.t0
    have b := k.t1
    rw [Vr.fits_in (by omega) (by omega) hv]
    cases hx : x.del with
    | false => rfl
    | true => rw [hd hx]; rw [emp_nil]; rfl
  cases F with
  | nil => exact (Vr.putE_nil hf).1
  | cons y r => exact (Vr.putE_ok hf (x := y) rfl (by have := k.up y (by simp); omega) (by rw [k.len]; omega)).1

theorem Fs.putK {F : List Vs} {j : Nat} {T : Int} (k : Fs F j T) (T2 : Int) (sv : ByteArray) (hj : j < 50) (h1 : T < T2) (h2 : T2 ≤ T + 4) (hv : sv.size ≤ 256) : Vr.putE F ⟨T2, sv, false⟩ = 0 := k.put ⟨T2, sv, false⟩ hj h1 h2 hv (fun h => Bool.noConfusion h)
theorem Fs.putD {F : List Vs} {j : Nat} {T : Int} (k : Fs F j T) (T2 : Int) (hj : j < 50) (h1 : T < T2) (h2 : T2 ≤ T + 4) : Vr.putE F ⟨T2, ⟨#[]⟩, true⟩ = 0 := k.put ⟨T2, ⟨#[]⟩, true⟩ hj h1 h2 (Nat.zero_le _) (fun _ => rfl)


/-- A Prune of the law. -/
theorem prune_needs {h : Hp} {j : Nat} {b : Bool} {L : List Ln} {F : List Vs} {M M2 : Int} (K : Ns m w0 wr H cB vB eB B cs cg X v h R) (N : Nd h j b L) (S : Says M F (L.map Ln.ver)) (hM : M ≤ M2) (hs : cs = 0 ∧ cg = 1) :
    Calls Try.prog 14 #[.pointer (some ⟨H, 0, none⟩), .agg #[.int .i64 cs, .int .i64 cg], .int .i64 M2] wr fun e w' => ∃ n c, e = .returned (.tuple #[.int .i64 n, .bool c, .int .i64 0]) ∧ ∃ h2 b2 L2, Ns m w0 w' H cB vB eB B cs cg X v h2 R ∧ Nd h2 j b2 L2 ∧ Says M2 F (L2.map Ln.ver) := by
  obtain ⟨h1, h2⟩ := hs
  subst h1
  subst h2
  have S2 := S.up hM
  have hl : L.length ≤ 50 := by have := N.cu; have := N.n5; omega
  have hcu : h.e.cur.length ≤ 3400000000000 := by have := N.cu; have := N.n5; omega
  cases b with
  | true =>
    refine (prune_closed K.mid.1 0 1 M2 N.cell.good N.cell.shut).mono ?_
    rintro e w' ⟨rfl, ha⟩
    exact ⟨0, true, rfl, h, true, L, K.call ha, N, S2⟩
  | false =>
    cases hL : L with
    | nil =>
      have hc := N.cell.chn
      rw [hL] at hc N S2
      refine (prune_empty K.mid.1 0 1 M2 N.cell.good hc N.cell.shut).mono ?_
      rintro e w' ⟨rfl, ha⟩
      exact ⟨0, false, rfl, h, false, [], K.call ha, N, S2⟩
    | cons x0 r0 =>
      have hne : 1 ≤ (slAt h.c.us (0 : Int).toNat).val.g := by
        have hc := N.cell.chn
        rw [hL] at hc
        exact hc.1.2.1
      obtain ⟨i, hi, hk, S3⟩ := S2.prune
      cases i with
      | zero =>
        rw [List.take_zero] at hk
        refine (prune_shut K.mid.1 0 1 M2 N.cell.good L N.cell.chn (by omega) hne N.cell.shut hk).mono ?_
        rintro e w' ⟨rfl, ha⟩
        exact ⟨0, true, rfl, _, true, L, K.call ha, N.shutC true, S2⟩
      | succ i =>
        rw [List.length_map] at hi
        have hx : L[i]? = some (L[i]'(by omega)) := List.getElem?_eq_getElem (by omega)
        refine (prune_cut K.mid.1 0 1 M2 N.cell.good L N.cell.chn (by omega) hne N.cell.shut i _ hx hk hcu).mono ?_
        rintro e w' ⟨rfl, ha⟩
        exact ⟨_, false, rfl, _, false, _, K.call ha, N.prunedN i _ hx, by rw [cutL_ver L i (by omega)]; exact S3⟩

/-- A Read of the law. -/
theorem read_needs {h : Hp} {j : Nat} {b : Bool} {L : List Ln} {t : Int} (K : Ns m w0 wr H cB vB eB B cs cg X v h R) (N : Nd h j b L) (hs : cs = 0 ∧ cg = 1) :
    Calls Try.prog 15 #[.pointer (some ⟨H, 0, none⟩), .agg #[.int .i64 cs, .int .i64 cg], .int .i64 t] wr fun e w' => e = .returned (.tuple #[((Vr.at? (L.map Ln.ver) t).getD Vs.zero).v, .bool (Vr.at? (L.map Ln.ver) t).isSome, .int .i64 0]) ∧ Below wr.heap.size wr w' := by
  obtain ⟨h1, h2⟩ := hs
  subst h1
  subst h2
  have hl : L.length ≤ 50 := by have := N.cu; have := N.n5; omega
  exact read_good K.mid.1 0 1 t N.cell.good L N.cell.chn (by omega)

end Go.Proofs.Ytbdcdiihaecheaa

namespace Go.Proofs.Ytbdcdiihaecheaa
open Go.RowKit
set_option linter.unusedVariables false
set_option maxRecDepth 100000
set_option linter.unusedSectionVars false
variable [Inhabited Cl] [Inhabited Ln]

variable {m : Nat} {w w1 w2 w' : World} {H cB vB eB : Nat} {cb vb eb : List Nat} {h h' : Hp} {av L L' : List Nat}

/-- Stale, where nothing was. -/
theorem hstale_zero (hh : Hpn m w H cB vB eB h av) (h1 : h.c.stale = 0) (h2 : h.v.stale = 0) : Calls Try.prog 16 #[.pointer (some ⟨H, 0, none⟩)] w fun e w' => e = .returned (.int .i64 0) ∧ Below w.heap.size w w' := by
  obtain ⟨cb, vb, eb, hh⟩ := hh
  obtain ⟨p0, p1, p2⟩ := hh.ptrs
  have HC : Hid (∀ k, Calls Try.prog 48 #[.pointer (some ⟨cB, 0, none⟩)] (w.drewN k) fun e w' => e = .returned (.int .i64 0) ∧ w' = w.drewN k) := fun k => (staleC (hh.c.tn (Tn.of_below (below_drewN (Below.refl _ w) k) []) (by simp))).mono fun e w' ⟨he, hk⟩ => ⟨by rw [he, h1], hk⟩
  have HV : Hid (∀ k, Calls Try.prog 49 #[.pointer (some ⟨vB, 0, none⟩)] (w.drewN k) fun e w' => e = .returned (.int .i64 0) ∧ w' = w.drewN k) := fun k => (staleL (hh.v.tn (Tn.of_below (below_drewN (Below.refl _ w) k) []) (by simp))).mono fun e w' ⟨he, hk⟩ => ⟨by rw [he, h2], hk⟩
  have HB : Hid (Below w.heap.size w w.drew) := below_drewN (Below.refl _ w) 1
  clear hh h1 h2
  go_enter Try.func16, Try.ntmps16
  go_wp2_with fail
  refine (hmade_ok p0).mono ?_
  rintro e w' ⟨rfl, rfl⟩
  go_wp2_with fail
  go_region_held3 (fun W => W.cell? ⟨H, 0, none⟩ = some (.pointer (some ⟨cB, 0, none⟩)) ∧ W.cell? ⟨H, 1, none⟩ = some (.pointer (some ⟨vB, 0, none⟩))) (go_keep) (first
    | (go_at_call 48; refine (HC.out 1).mono ?_; rintro e w3 ⟨rfl, rfl⟩)
    | (go_at_call 49; refine (HV.out 1).mono ?_; rintro e w3 ⟨rfl, rfl⟩))
  all_goals
    go_wp2
    go_ret
    exact ⟨rfl, HB.out⟩

theorem hcells_good (hh : Hpn m w H cB vB eB h av) : Calls Try.prog 19 #[.pointer (some ⟨H, 0, none⟩)] w fun e w' => e = .returned (.int .i64 (live h.c.us)) ∧ Below w.heap.size w w' := by
  obtain ⟨cb, vb, eb, hh⟩ := hh
  obtain ⟨p0, p1, p2⟩ := hh.ptrs
  have HL : Hid (Calls Try.prog 53 #[.pointer (some ⟨cB, 0, none⟩)] w fun e w' => e = .returned (.int .i64 (live h.c.us)) ∧ Below w.heap.size w w') := (livedC hh.c).mono fun e w' ⟨he, k, hk⟩ => ⟨he, by rw [hk]; exact below_drewN (Below.refl _ w) k⟩
  clear hh
  go_enter Try.func19, Try.ntmps19
  go_wp2_with fail
  refine (hmade_ok p0).mono ?_
  rintro e w' ⟨rfl, rfl⟩
  go_wp2_with fail
  refine HL.out.mono ?_
  rintro e w3 ⟨rfl, hb⟩
  go_wp2
  go_ret
  exact ⟨rfl, hb⟩

theorem hversions_good (hh : Hpn m w H cB vB eB h av) : Calls Try.prog 20 #[.pointer (some ⟨H, 0, none⟩)] w fun e w' => e = .returned (.int .i64 (live h.v.us)) ∧ Below w.heap.size w w' := by
  obtain ⟨cb, vb, eb, hh⟩ := hh
  obtain ⟨p0, p1, p2⟩ := hh.ptrs
  have HL : Hid (Calls Try.prog 54 #[.pointer (some ⟨vB, 0, none⟩)] w fun e w' => e = .returned (.int .i64 (live h.v.us)) ∧ Below w.heap.size w w') := (livedL hh.v).mono fun e w' ⟨he, k, hk⟩ => ⟨he, by rw [hk]; exact below_drewN (Below.refl _ w) k⟩
  clear hh
  go_enter Try.func20, Try.ntmps20
  go_wp2_with fail
  refine (hmade_ok p0).mono ?_
  rintro e w' ⟨rfl, rfl⟩
  go_wp2_with fail
  refine HL.out.mono ?_
  rintro e w3 ⟨rfl, hb⟩
  go_wp2
  go_ret
  exact ⟨rfl, hb⟩

/-- A version is freed. -/
theorem hfree_ver (hh : Hpn m w H cB vB eB h av) (hS hG : Int) (hg : h.v.Good hS hG) : Calls Try.prog 22 #[.pointer (some ⟨H, 0, none⟩), .agg #[.int .i64 3, .int .i64 hS, .int .i64 hG]] w fun e w' => e = .returned (.int .i64 0) ∧ AftH m w w' H cB vB eB { h with v := h.v.free hS.toNat Ln.zero } av := by
  obtain ⟨w2, hw2, hz2, hk⟩ : ∃ w2, w.alloc (.cells #[.int .i64 3, .int .i64 hS, .int .i64 hG] 59) = w2 ∧ w2.heap.size = w.heap.size + 1 ∧ Bk w2 w.heap.size 59 #[.int .i64 3, .int .i64 hS, .int .i64 hG] := ⟨_, rfl, by simp, Bk.new _ _ _⟩
  have t2 : Tn [] w w2 := by rw [← hw2]; exact (Tn.refl _ _).alloc _
  have K2 : MidH m w [w.heap.size] w2 H cB vB eB h av := (MidH.start hh).new t2 (by simp) (by simp; omega)
  have HK2 : Hid (MidH m w [w.heap.size] w2 H cB vB eB h av) := K2
  have HF : Hid (Calls Try.prog 58 #[.pointer (some ⟨vB, 0, none⟩), .agg #[.int .i64 hS, .int .i64 hG]] w2.drew fun e w' => e = .returned (.int .i64 0) ∧ MidH m w [w.heap.size] w' H cB vB eB { h with v := h.v.free hS.toNat Ln.zero } av ∧ Bk w' w.heap.size 59 #[.int .i64 3, .int .i64 hS, .int .i64 hG]) := by
    have K := HK2.out.quiet (Tn.refl [] _).drew
    obtain ⟨cb, vb, eb, hI⟩ := K.1
    refine (freeGoodL hI.v hS hG hg).mono ?_
    rintro e w3 ⟨rfl, ht⟩
    have ha := hI.stepV ht
    exact ⟨rfl, K.call ha, ha.blk (by simp) hk.drew⟩
  have p0 : w2.cell? ⟨H, 0, none⟩ = some (.pointer (some ⟨cB, 0, none⟩)) := K2.1.ptrs.1
  have p1 : w2.cell? ⟨H, 1, none⟩ = some (.pointer (some ⟨vB, 0, none⟩)) := K2.1.ptrs.2.1
  have a0 : w2.cell? ⟨w.heap.size, 0, none⟩ = some (.int .i64 3) := hk.cell 0
  have a1 : w2.cell? ⟨w.heap.size, 1, none⟩ = some (.int .i64 hS) := hk.cell 1
  have a2 : w2.cell? ⟨w.heap.size, 2, none⟩ = some (.int .i64 hG) := hk.cell 2
  clear K2 hk t2 hh hg
  go_enter Try.func22, Try.ntmps22
  go_wp2_with fail
  refine (hmade_ok p0).mono ?_
  rintro e w' ⟨rfl, rfl⟩
  go_wp2_with fail
  go_region_held3 (fun W => W.cell? ⟨H, 1, none⟩ = some (.pointer (some ⟨vB, 0, none⟩)) ∧ W.cell? ⟨w.heap.size, 0, none⟩ = some (.int .i64 3) ∧ W.cell? ⟨w.heap.size, 1, none⟩ = some (.int .i64 hS) ∧ W.cell? ⟨w.heap.size, 2, none⟩ = some (.int .i64 hG)) (go_keep) (first
    | (go_at_call 58; refine HF.out.mono ?_; rintro e w3 ⟨rfl, K3, k3⟩; have HK3 : Hid (MidH m w [w.heap.size] w3 H cB vB eB { h with v := h.v.free hS.toNat Ln.zero } av) := K3; have o0 : w3.cell? ⟨H, 1, none⟩ = some (.pointer (some ⟨vB, 0, none⟩)) := HK3.out.1.ptrs.2.1; have o1 : w3.cell? ⟨w.heap.size, 0, none⟩ = some (.int .i64 3) := k3.cell 0; have o2 : w3.cell? ⟨w.heap.size, 1, none⟩ = some (.int .i64 hS) := k3.cell 1; have o3 : w3.cell? ⟨w.heap.size, 2, none⟩ = some (.int .i64 hG) := k3.cell 2; clear K3 k3))
  go_wp2
  go_ret
  exact ⟨rfl, HK3.out.fin⟩

/-- A cell is freed. -/
theorem hfree_cell (hh : Hpn m w H cB vB eB h av) (hS hG : Int) (hg : h.c.Good hS hG) : Calls Try.prog 22 #[.pointer (some ⟨H, 0, none⟩), .agg #[.int .i64 4, .int .i64 hS, .int .i64 hG]] w fun e w' => e = .returned (.int .i64 0) ∧ AftH m w w' H cB vB eB { h with c := h.c.free hS.toNat Cl.zero } av := by
  obtain ⟨w2, hw2, hz2, hk⟩ : ∃ w2, w.alloc (.cells #[.int .i64 4, .int .i64 hS, .int .i64 hG] 59) = w2 ∧ w2.heap.size = w.heap.size + 1 ∧ Bk w2 w.heap.size 59 #[.int .i64 4, .int .i64 hS, .int .i64 hG] := ⟨_, rfl, by simp, Bk.new _ _ _⟩
  have t2 : Tn [] w w2 := by rw [← hw2]; exact (Tn.refl _ _).alloc _
  have K2 : MidH m w [w.heap.size] w2 H cB vB eB h av := (MidH.start hh).new t2 (by simp) (by simp; omega)
  have HK2 : Hid (MidH m w [w.heap.size] w2 H cB vB eB h av) := K2
  have HF : Hid (Calls Try.prog 59 #[.pointer (some ⟨cB, 0, none⟩), .agg #[.int .i64 hS, .int .i64 hG]] w2.drew fun e w' => e = .returned (.int .i64 0) ∧ MidH m w [w.heap.size] w' H cB vB eB { h with c := h.c.free hS.toNat Cl.zero } av ∧ Bk w' w.heap.size 59 #[.int .i64 4, .int .i64 hS, .int .i64 hG]) := by
    have K := HK2.out.quiet (Tn.refl [] _).drew
    obtain ⟨cb, vb, eb, hI⟩ := K.1
    refine (freeGoodC hI.c hS hG hg).mono ?_
    rintro e w3 ⟨rfl, ht⟩
    have ha := hI.stepC ht
    exact ⟨rfl, K.call ha, ha.blk (by simp) hk.drew⟩
  have p0 : w2.cell? ⟨H, 0, none⟩ = some (.pointer (some ⟨cB, 0, none⟩)) := K2.1.ptrs.1
  have a0 : w2.cell? ⟨w.heap.size, 0, none⟩ = some (.int .i64 4) := hk.cell 0
  have a1 : w2.cell? ⟨w.heap.size, 1, none⟩ = some (.int .i64 hS) := hk.cell 1
  have a2 : w2.cell? ⟨w.heap.size, 2, none⟩ = some (.int .i64 hG) := hk.cell 2
  clear K2 hk t2 hh hg
  go_enter Try.func22, Try.ntmps22
  go_wp2_with fail
  refine (hmade_ok p0).mono ?_
  rintro e w' ⟨rfl, rfl⟩
  go_wp2_with fail
  go_region_held3 (fun W => W.cell? ⟨H, 0, none⟩ = some (.pointer (some ⟨cB, 0, none⟩)) ∧ W.cell? ⟨w.heap.size, 0, none⟩ = some (.int .i64 4) ∧ W.cell? ⟨w.heap.size, 1, none⟩ = some (.int .i64 hS) ∧ W.cell? ⟨w.heap.size, 2, none⟩ = some (.int .i64 hG)) (go_keep) (first
    | (go_at_call 59; refine HF.out.mono ?_; rintro e w3 ⟨rfl, K3, k3⟩; have HK3 : Hid (MidH m w [w.heap.size] w3 H cB vB eB { h with c := h.c.free hS.toNat Cl.zero } av) := K3; have o0 : w3.cell? ⟨H, 0, none⟩ = some (.pointer (some ⟨cB, 0, none⟩)) := HK3.out.1.ptrs.1; have o1 : w3.cell? ⟨w.heap.size, 0, none⟩ = some (.int .i64 4) := k3.cell 0; have o2 : w3.cell? ⟨w.heap.size, 1, none⟩ = some (.int .i64 hS) := k3.cell 1; have o3 : w3.cell? ⟨w.heap.size, 2, none⟩ = some (.int .i64 hG) := k3.cell 2; clear K3 k3))
  go_wp2
  go_ret
  exact ⟨rfl, HK3.out.fin⟩

end Go.Proofs.Ytbdcdiihaecheaa

namespace Go.Proofs.Ytbdcdiihaecheaa
open Go.ChangeShapes Go.WideShapes Go.ChangeAt Go.RowKit
set_option linter.unusedVariables false
set_option maxRecDepth 100000

def Vs.ok (x : Vs) : Prop := x.val.size ≤ 9223372036854775807

section
variable {H : Type} {enc : TypeId × Value → H} {W : World} {fuel : Nat} {cs : List Value} {x : DataW H × List MemPlace}

theorem in_ver (hf : DataW.trod enc Try.prog W 0 (fun _ => true) true fuel 34 cs = some x) : ∃ g : Vs, cs = g.cells ∧ g.ok := by
  obtain ⟨ys, n, -, rfl, hlen, hys, hall⟩ := DataW.trod_struct Try.underlying34 hf
  have eT : Try.prog.cellsOf 34 = 3 := by kernel_rfl
  rw [eT] at hlen
  obtain ⟨c0, c1, c2, rfl⟩ := list3 hlen
  obtain ⟨y0, y1, y2, rfl⟩ := list3 (l := ys) hys
  have h0 : DataW.trod enc Try.prog W 0 (fun _ => true) true n 2 [c0] = some y0 := by
    have h : DataW.trod enc Try.prog W 0 (fun _ => true) true n 2 (List.take (Try.prog.cellsOf 2) (List.drop 0 [c0, c1, c2])) = some y0 := hall 0 _ rfl
    rw [show Try.prog.cellsOf 2 = 1 by kernel_rfl] at h
    exact h
  have h1 : DataW.trod enc Try.prog W 0 (fun _ => true) true n 9 [c1] = some y1 := by
    have h : DataW.trod enc Try.prog W 0 (fun _ => true) true n 9 (List.take (Try.prog.cellsOf 9) (List.drop 1 [c0, c1, c2])) = some y1 := hall 1 _ rfl
    rw [show Try.prog.cellsOf 9 = 1 by kernel_rfl] at h
    exact h
  have h2 : DataW.trod enc Try.prog W 0 (fun _ => true) true n 4 [c2] = some y2 := by
    have h : DataW.trod enc Try.prog W 0 (fun _ => true) true n 4 (List.take (Try.prog.cellsOf 4) (List.drop 2 [c0, c1, c2])) = some y2 := hall 2 _ rfl
    rw [show Try.prog.cellsOf 4 = 1 by kernel_rfl] at h
    exact h
  obtain ⟨v0, q0, _, w0⟩ := DataW.trod_int Try.underlying2 h0
  obtain ⟨v1, q1, _, w1⟩ := DataW.trod_string Try.underlying9 h1
  obtain ⟨v2, q2, _⟩ := DataW.trod_bool Try.underlying4 h2
  simp only [List.cons.injEq, and_true] at q0 q1 q2
  subst q0 q1 q2
  exact ⟨⟨v0, v1, v2⟩, rfl, by unfold maxLen at w1; exact w1⟩
end

/-- Versions that came in. -/
abbrev InV (W : World) (a : Option Addr) (len cap : Nat) (l : List Vs) : Prop := InL Vs.cells Vs.ok 3 4398046510976 W a len cap l
theorem in_vers {H : Type} {enc : TypeId × Value → H} {W : World} {a : Option Addr} {len cap : Nat} {d : DataW H} {p : List MemPlace}
    (h : DataW.Trod enc Try.prog W 0 (fun _ => true) true 46 (.slice a len cap) d p) (hB : ∀ n ∈ d.weights Try.prog 46, n ≤ 140737488351232) : ∃ l, InV W a len cap l :=
  haveI : Inhabited Vs := ⟨Vs.zero⟩
  in_list (k := 3) (B := 32) Try.underlying46 (by kernel_rfl) (by kernel_rfl) (by decide) (fun n hn => by omega) (fun fuel cs x hf => in_ver hf) (fun g => by simp [Vs.cells]) h hB

theorem InV.vrs {W : World} {a : Option Addr} {len cap : Nat} {l : List Vs} (h : InV W a len cap l) : Vrs W a l ∧ l.length = len ∧ Vr.Okl l ∧ (a = none → len = 0 ∧ cap = 0) ∧ len ≤ 4398046510976 :=
  ⟨fun hl => h.cel (by rw [← h.lenq]; exact hl), h.lenq, fun i x hx => h.ok x (List.mem_of_getElem? hx), h.nil, Nat.le_trans h.le h.room⟩
end Go.Proofs.Ytbdcdiihaecheaa

namespace Go.Proofs.Ytbdcdiihaecheaa
open Go.ChangeShapes Go.WideShapes Go.ChangeAt Go.RowKit
set_option linter.unusedVariables false
set_option maxRecDepth 100000

/-- An operation of a script. -/
structure Hop where
  dd : Int
  s : Int
  a : Int
  b : Int
  use : Int
  key : ByteArray
  v : Vs
  ts : Int
  os : Int
  og : Int
  kind : Int

def Hop.cells (o : Hop) : List Value := [.int .i64 o.dd, .int .i64 o.s, .int .i64 o.a, .int .i64 o.b, .int .i64 o.use, .string o.key, .int .i64 o.v.ts, .string o.v.val, .bool o.v.del, .int .i64 o.ts, .int .i64 o.os, .int .i64 o.og, .int .i64 o.kind]
abbrev Hop.val (o : Hop) : Value := .agg #[.int .i64 o.dd, .int .i64 o.s, .int .i64 o.a, .int .i64 o.b, .int .i64 o.use, .string o.key, .int .i64 o.v.ts, .string o.v.val, .bool o.v.del, .int .i64 o.ts, .int .i64 o.os, .int .i64 o.og, .int .i64 o.kind]
def I9 (x : Int) : Prop := -9223372036854775808 ≤ x ∧ x ≤ 9223372036854775807
def Hop.ok (o : Hop) : Prop := (I9 o.dd ∧ I9 o.s ∧ I9 o.a ∧ I9 o.b ∧ I9 o.use) ∧ o.key.size ≤ 9223372036854775807 ∧ o.v.ok ∧ I9 o.ts ∧ I9 o.os ∧ I9 o.og ∧ I9 o.kind

theorem list13 {α : Type} {l : List α} (h : l.length = 13) : ∃ c0 c1 c2 c3 c4 c5 c6 c7 c8 c9 c10 c11 c12, l = [c0, c1, c2, c3, c4, c5, c6, c7, c8, c9, c10, c11, c12] := by
  match l, h with
  | [c0, c1, c2, c3, c4, c5, c6, c7, c8, c9, c10, c11, c12], _ => exact ⟨c0, c1, c2, c3, c4, c5, c6, c7, c8, c9, c10, c11, c12, rfl⟩
theorem list10 {α : Type} {l : List α} (h : l.length = 10) : ∃ c0 c1 c2 c3 c4 c5 c6 c7 c8 c9, l = [c0, c1, c2, c3, c4, c5, c6, c7, c8, c9] := by
  match l, h with
  | [c0, c1, c2, c3, c4, c5, c6, c7, c8, c9], _ => exact ⟨c0, c1, c2, c3, c4, c5, c6, c7, c8, c9, rfl⟩

section
variable {H : Type} {enc : TypeId × Value → H} {W : World} {fuel : Nat} {cs : List Value} {x : DataW H × List MemPlace}

theorem in_hnd (hf : DataW.trod enc Try.prog W 0 (fun _ => true) true fuel 36 cs = some x) : ∃ s g : Int, cs = [.int .i64 s, .int .i64 g] ∧ I9 s ∧ I9 g := by
  obtain ⟨ys, n, -, rfl, hlen, hys, hall⟩ := DataW.trod_struct Try.underlying36 hf
  have eT : Try.prog.cellsOf 36 = 2 := by kernel_rfl
  rw [eT] at hlen
  obtain ⟨c0, c1, rfl⟩ := list2 hlen
  obtain ⟨y0, y1, rfl⟩ := list2 (l := ys) hys
  have h0 : DataW.trod enc Try.prog W 0 (fun _ => true) true n 3 [c0] = some y0 := by
    have h : DataW.trod enc Try.prog W 0 (fun _ => true) true n 3 (List.take (Try.prog.cellsOf 3) (List.drop 0 [c0, c1])) = some y0 := hall 0 _ rfl
    rw [show Try.prog.cellsOf 3 = 1 by kernel_rfl] at h
    exact h
  have h1 : DataW.trod enc Try.prog W 0 (fun _ => true) true n 2 [c1] = some y1 := by
    have h : DataW.trod enc Try.prog W 0 (fun _ => true) true n 2 (List.take (Try.prog.cellsOf 2) (List.drop 1 [c0, c1])) = some y1 := hall 1 _ rfl
    rw [show Try.prog.cellsOf 2 = 1 by kernel_rfl] at h
    exact h
  obtain ⟨v0, q0, _, w0⟩ := DataW.trod_int Try.underlying3 h0
  obtain ⟨v1, q1, _, w1⟩ := DataW.trod_int Try.underlying2 h1
  simp only [List.cons.injEq, and_true] at q0 q1
  subst q0 q1
  exact ⟨v0, v1, rfl, bounds_i64 w0, bounds_i64 w1⟩

theorem in_hop (hf : DataW.trod enc Try.prog W 0 (fun _ => true) true fuel 38 cs = some x) : ∃ g : Hop, cs = g.cells ∧ g.ok := by
  obtain ⟨ys, n, -, rfl, hlen, hys, hall⟩ := DataW.trod_struct Try.underlying38 hf
  have eT : Try.prog.cellsOf 38 = 13 := by kernel_rfl
  rw [eT] at hlen
  obtain ⟨c0, c1, c2, c3, c4, c5, c6, c7, c8, c9, c10, c11, c12, rfl⟩ := list13 hlen
  obtain ⟨y0, y1, y2, y3, y4, y5, y6, y7, y8, y9, rfl⟩ := list10 (l := ys) hys
  have h0 : DataW.trod enc Try.prog W 0 (fun _ => true) true n 3 [c0] = some y0 := by
    have h : DataW.trod enc Try.prog W 0 (fun _ => true) true n 3 (List.take (Try.prog.cellsOf 3) (List.drop 0 [c0, c1, c2, c3, c4, c5, c6, c7, c8, c9, c10, c11, c12])) = some y0 := hall 0 _ rfl
    rw [show Try.prog.cellsOf 3 = 1 by kernel_rfl] at h
    exact h
  have h1 : DataW.trod enc Try.prog W 0 (fun _ => true) true n 3 [c1] = some y1 := by
    have h : DataW.trod enc Try.prog W 0 (fun _ => true) true n 3 (List.take (Try.prog.cellsOf 3) (List.drop 1 [c0, c1, c2, c3, c4, c5, c6, c7, c8, c9, c10, c11, c12])) = some y1 := hall 1 _ rfl
    rw [show Try.prog.cellsOf 3 = 1 by kernel_rfl] at h
    exact h
  have h2 : DataW.trod enc Try.prog W 0 (fun _ => true) true n 3 [c2] = some y2 := by
    have h : DataW.trod enc Try.prog W 0 (fun _ => true) true n 3 (List.take (Try.prog.cellsOf 3) (List.drop 2 [c0, c1, c2, c3, c4, c5, c6, c7, c8, c9, c10, c11, c12])) = some y2 := hall 2 _ rfl
    rw [show Try.prog.cellsOf 3 = 1 by kernel_rfl] at h
    exact h
  have h3 : DataW.trod enc Try.prog W 0 (fun _ => true) true n 3 [c3] = some y3 := by
    have h : DataW.trod enc Try.prog W 0 (fun _ => true) true n 3 (List.take (Try.prog.cellsOf 3) (List.drop 3 [c0, c1, c2, c3, c4, c5, c6, c7, c8, c9, c10, c11, c12])) = some y3 := hall 3 _ rfl
    rw [show Try.prog.cellsOf 3 = 1 by kernel_rfl] at h
    exact h
  have h4 : DataW.trod enc Try.prog W 0 (fun _ => true) true n 3 [c4] = some y4 := by
    have h : DataW.trod enc Try.prog W 0 (fun _ => true) true n 3 (List.take (Try.prog.cellsOf 3) (List.drop 4 [c0, c1, c2, c3, c4, c5, c6, c7, c8, c9, c10, c11, c12])) = some y4 := hall 4 _ rfl
    rw [show Try.prog.cellsOf 3 = 1 by kernel_rfl] at h
    exact h
  have h5 : DataW.trod enc Try.prog W 0 (fun _ => true) true n 9 [c5] = some y5 := by
    have h : DataW.trod enc Try.prog W 0 (fun _ => true) true n 9 (List.take (Try.prog.cellsOf 9) (List.drop 5 [c0, c1, c2, c3, c4, c5, c6, c7, c8, c9, c10, c11, c12])) = some y5 := hall 5 _ rfl
    rw [show Try.prog.cellsOf 9 = 1 by kernel_rfl] at h
    exact h
  have h6 : DataW.trod enc Try.prog W 0 (fun _ => true) true n 34 [c6, c7, c8] = some y6 := by
    have h : DataW.trod enc Try.prog W 0 (fun _ => true) true n 34 (List.take (Try.prog.cellsOf 34) (List.drop 6 [c0, c1, c2, c3, c4, c5, c6, c7, c8, c9, c10, c11, c12])) = some y6 := hall 6 _ rfl
    rw [show Try.prog.cellsOf 34 = 3 by kernel_rfl] at h
    exact h
  have h7 : DataW.trod enc Try.prog W 0 (fun _ => true) true n 2 [c9] = some y7 := by
    have h : DataW.trod enc Try.prog W 0 (fun _ => true) true n 2 (List.take (Try.prog.cellsOf 2) (List.drop 9 [c0, c1, c2, c3, c4, c5, c6, c7, c8, c9, c10, c11, c12])) = some y7 := hall 7 _ rfl
    rw [show Try.prog.cellsOf 2 = 1 by kernel_rfl] at h
    exact h
  have h8 : DataW.trod enc Try.prog W 0 (fun _ => true) true n 36 [c10, c11] = some y8 := by
    have h : DataW.trod enc Try.prog W 0 (fun _ => true) true n 36 (List.take (Try.prog.cellsOf 36) (List.drop 10 [c0, c1, c2, c3, c4, c5, c6, c7, c8, c9, c10, c11, c12])) = some y8 := hall 8 _ rfl
    rw [show Try.prog.cellsOf 36 = 2 by kernel_rfl] at h
    exact h
  have h9 : DataW.trod enc Try.prog W 0 (fun _ => true) true n 3 [c12] = some y9 := by
    have h : DataW.trod enc Try.prog W 0 (fun _ => true) true n 3 (List.take (Try.prog.cellsOf 3) (List.drop 12 [c0, c1, c2, c3, c4, c5, c6, c7, c8, c9, c10, c11, c12])) = some y9 := hall 9 _ rfl
    rw [show Try.prog.cellsOf 3 = 1 by kernel_rfl] at h
    exact h
  obtain ⟨v0, q0, _, w0⟩ := DataW.trod_int Try.underlying3 h0
  obtain ⟨v1, q1, _, w1⟩ := DataW.trod_int Try.underlying3 h1
  obtain ⟨v2, q2, _, w2⟩ := DataW.trod_int Try.underlying3 h2
  obtain ⟨v3, q3, _, w3⟩ := DataW.trod_int Try.underlying3 h3
  obtain ⟨v4, q4, _, w4⟩ := DataW.trod_int Try.underlying3 h4
  obtain ⟨v5, q5, _, w5⟩ := DataW.trod_string Try.underlying9 h5
  obtain ⟨v6, q6, w6⟩ := in_ver h6
  obtain ⟨v7, q7, _, w7⟩ := DataW.trod_int Try.underlying2 h7
  obtain ⟨vs, vg, q8, w8, w89⟩ := in_hnd h8
  obtain ⟨v9, q9, _, w9⟩ := DataW.trod_int Try.underlying3 h9
  simp only [List.cons.injEq, and_true, Vs.cells] at q0 q1 q2 q3 q4 q5 q6 q7 q8 q9
  obtain ⟨q6a, q6b, q6c⟩ := q6
  obtain ⟨q8a, q8b⟩ := q8
  subst q0 q1 q2 q3 q4 q5 q6a q6b q6c q7 q8a q8b q9
  refine ⟨⟨v0, v1, v2, v3, v4, v5, v6, v7, vs, vg, v9⟩, rfl, ⟨bounds_i64 w0, bounds_i64 w1, bounds_i64 w2, bounds_i64 w3, bounds_i64 w4⟩, ?_, w6, bounds_i64 w7, w8, w89, bounds_i64 w9⟩
  unfold maxLen at w5
  exact w5
end

abbrev InHo (w : World) (p : Option Addr) (len cap : Nat) (l : List Hop) : Prop := InL Hop.cells Hop.ok 13 1099511627776 w p len cap l
end Go.Proofs.Ytbdcdiihaecheaa

namespace Go.Proofs.Ytbdcdiihaecheaa
open Go.ChangeShapes Go.WideShapes Go.ChangeAt Go.RowKit
open Go.ChangeMaps (open_string shut_string)
set_option linter.unusedVariables false
set_option maxRecDepth 100000

set_option maxHeartbeats 3000000 in
theorem walk_needsA (p0 : Option Addr) (n0 c0 : Nat) (xs : List Int) (p1 : Option Addr) (n1 c1 : Nat) (ks : List Bool) (p2 : Option Addr) (n2 c2 : Nat) (ms : List Int) (w : World) (hm : ¬ 50 < (n0 : Int)) (i0 : InB 140737488351232 w p0 n0 c0 xs) (i1 : InK w p1 n1 c1 ks) (i2 : InB 140737488351232 w p2 n2 c2 ms) :
    Calls Try.prog 4 #[.slice p0 n0 c0, .slice p1 n1 c1, .slice p2 n2 c2] w fun e w' => e = .returned (.bool true) ∧ Below w.heap.size w w' := by
  haveI : Inhabited Cl := ⟨Cl.zero⟩
  haveI : Inhabited Ln := ⟨Ln.zero⟩
  have HIN : Hid (∀ W, Below w.heap.size w W → InB 140737488351232 W p0 n0 c0 xs ∧ InK W p1 n1 c1 ks ∧ InB 140737488351232 W p2 n2 c2 ms) := fun W hb => ⟨i0.below hb, i1.below hb, i2.below hb⟩
  have hk5 : n0 ≤ 50 := by omega
  have hkn : n0 ≤ n0 := by omega
  have q0 := i0.le
  have q1 := i0.room
  have q2 := i1.le
  have q3 := i1.room
  have q4 := i2.le
  have q5 := i2.room
  have hk0 : (0 : Int) ≤ (n0 : Int) := by omega
  have hkc : (n0 : Int) ≤ (c0 : Int) := by omega
  obtain ⟨cs, hcs⟩ : ∃ cs : Int, cs = 0 := ⟨_, rfl⟩
  obtain ⟨cg, hcg⟩ : ∃ cg : Int, cg = 1 := ⟨_, rfl⟩
  have HCS : Hid (cs = 0 ∧ cg = 1) := ⟨hcs, hcg⟩
  obtain ⟨zd, hzd⟩ : ∃ zd : Bool, zd = false := ⟨_, rfl⟩
  have HZD : Hid (zd = false) := hzd
  clear hcs hcg i0 i1 i2 hzd
  go_enter Try.func4, Try.ntmps4
  go_wp2_with fail
  refine (new_any w).mono ?_
  rintro e w1 ⟨rfl, he1, hb1, hz1⟩
  have HNEW : Hid (Calls Try.prog 8 #[.int .i64 1, .int .i64 60, .pointer (some ⟨w.heap.size, 0, none⟩)] w1 fun r w' => r = .returned (.tuple #[.pointer (some ⟨w.heap.size + 3, 0, none⟩), .int .i64 0]) ∧ Hpn w.heap.size w' (w.heap.size + 3) (w.heap.size + 1) (w.heap.size + 2) w.heap.size nd0 [] ∧ Below w.heap.size w w') := by
    refine (hnew_any he1 1 60 (of_decide_eq_true rfl) (of_decide_eq_true rfl) (of_decide_eq_true rfl) (of_decide_eq_true rfl)).mono ?_
    rintro r w' ⟨rfl, hc, hv, hk, hb, hz⟩
    rw [hz1] at hc hv hk hz
    refine ⟨by rw [hz1], ⟨[w.heap.size + 1], [w.heap.size + 2], [w.heap.size], { blk := hk, c := hc, v := hv, e := he1.tn (Tn.of_below hb []) (by simp), s17 := by simp [nd0], mH := by omega, mc := by simp, mv := by simp, me := by simp, Hc := by simp, Hv := by simp, He := by simp, cv := by simp, ce := by simp, ve := by simp, av := by simp }⟩, hb1.trans (hb.mono hb1.size)⟩
  clear he1 hb1 hz1
  go_wp2_with fail
  refine HNEW.out.mono ?_
  rintro e w2 ⟨rfl, hh2, hb2⟩
  have HK2 : Hid (Hpn w.heap.size w2 (w.heap.size + 3) (w.heap.size + 1) (w.heap.size + 2) w.heap.size nd0 [] ∧ Below w.heap.size w w2) := ⟨hh2, hb2⟩
  clear hh2 hb2 HNEW
  obtain ⟨H, hH⟩ : ∃ H, w.heap.size + 3 = H := ⟨_, rfl⟩
  rw [hH] at HK2
  go_wp2_with fail
  refine (hbegun_any w2).mono ?_
  rintro e w3 ⟨rfl, hb3⟩
  have HK3 : Hid (Hpn w.heap.size w3 H (w.heap.size + 1) (w.heap.size + 2) w.heap.size nd0 [] ∧ Below w.heap.size w w3) := ⟨HK2.out.1.below hb3, HK2.out.2.trans (hb3.mono HK2.out.2.size)⟩
  have HRES : Hid (Calls Try.prog 10 #[.pointer (some ⟨H, 0, none⟩), .int .i64 0, .int .i64 1, .int .i64 50] w3 fun e w' => e = .returned (.int .i64 0) ∧ AftH w.heap.size w3 w' H (w.heap.size + 1) (w.heap.size + 2) w.heap.size nd1 []) := reserve_ok HK3.out.1 nd0_fit 0 1 50 (of_decide_eq_true rfl) rfl (of_decide_eq_true rfl) (of_decide_eq_true rfl)
  clear hb3 HK2
  go_wp2_with fail
  refine HRES.out.mono ?_
  rintro e w4 ⟨rfl, ha4⟩
  have HK4 : Hid (Hpn w.heap.size w4 H (w.heap.size + 1) (w.heap.size + 2) w.heap.size nd1 [] ∧ Below w.heap.size w w4) := ⟨ha4.1, HK3.out.2.trans ha4.2.1⟩
  have HCL : Hid (Calls Try.prog 12 #[.pointer (some ⟨H, 0, none⟩), .int .i64 0, .string ⟨#[97]⟩] w4 fun e w' => e = .returned (.tuple #[.agg #[.int .i64 cs, .int .i64 cg], .int .i64 0]) ∧ AftH w.heap.size w4 w' H (w.heap.size + 1) (w.heap.size + 2) w.heap.size nd2 []) := by
    rw [HCS.out.1, HCS.out.2]
    exact cell_ok HK4.out.1 0 ⟨#[97]⟩ (of_decide_eq_true rfl) rfl ⟨of_decide_eq_true rfl, of_decide_eq_true rfl⟩ (of_decide_eq_true rfl) (of_decide_eq_true rfl) (of_decide_eq_true rfl) (of_decide_eq_true rfl) (of_decide_eq_true rfl)
  clear ha4 HK3 HRES
  go_wp2_with fail
  refine HCL.out.mono ?_
  rintro e w5 ⟨rfl, ha5⟩
  obtain ⟨B, hB⟩ : ∃ B, w5.heap.size = B := ⟨_, rfl⟩
  obtain ⟨w6, hw6, hk6, t56⟩ : ∃ w6, w5.alloc (.cells #[.int .i64 cs, .int .i64 cg] 36) = w6 ∧ Bk w6 B 36 #[.int .i64 cs, .int .i64 cg] ∧ Tn [] w5 w6 := ⟨_, rfl, by rw [← hB]; exact Bk.new _ _ _, (Tn.refl _ _).alloc _⟩
  have hb5 : Below w.heap.size w w5 := HK4.out.2.trans ha5.2.1
  have HS6 : Hid (Ns w.heap.size w5 w6 H (w.heap.size + 1) (w.heap.size + 2) w.heap.size B cs cg [] (.slice none 0 0) nd2 [] ∧ Below w.heap.size w w5) :=
    ⟨⟨(MidH.start ha5.1).new t56 (by simp [Value.ownBlock]; omega) (by simp [Value.ownBlock]; exact hk6.lt), hk6, Own.nil _ _ _⟩, hb5⟩
  clear ha5 hk6 t56 hb5 HCL HK4
  go_wp2_with fail
  go_loopw [64, 11, 12] (fun i t v wr => ∃ (j : Nat) (T : Int) (h : Hp) (L : List Ln) (F : List Vs), j ≤ n0 ∧ i = .int .i64 j ∧ t = .int .i64 T ∧ Hid (Ns w.heap.size w5 wr H (w.heap.size + 1) (w.heap.size + 2) w.heap.size B cs cg [] v h F.reverse ∧ Nd h j false L ∧ L.map Ln.ver = F ∧ Fs F j T)) (fun i _ _ _ => n0 - (intOf i).toNat)
  case atStart => exact ⟨0, 0, nd2, [], [], Nat.zero_le _, rfl, rfl, HS6.out.1, nd2_nd, rfl, ⟨rfl, by simp, List.Pairwise.nil, Int.le_refl _, by simp⟩⟩
  case round =>
    obtain ⟨j, T, h, L, F, hj, rfl, rfl, HK⟩ := hrel
    by_cases hlt : j < n0
    · have hli : (j : Int) < (n0 : Int) := by omega
      have g0 : (0 : Int) ≤ (j : Int) := by omega
      have g1 : (j : Int) < (n0 : Int) := by omega
      have hbw : Below w.heap.size w wr := HS6.out.2.trans HK.out.1.mid.2.1
      obtain ⟨zb, zo, rfl, hcx⟩ := (HIN.out wr hbw).1.bys (by have := (HIN.out wr hbw).1.lenq; omega)
      have cx := hcx j (by have := (HIN.out wr hbw).1.lenq; omega)
      obtain ⟨y, hy⟩ : ∃ y, xs.getD j 0 = y := ⟨_, rfl⟩
      rw [hy] at cx
      have hyb : 0 ≤ y ∧ y < 256 := by
        have hl := (HIN.out wr hbw).1.lenq
        refine (HIN.out wr hbw).1.byte y ?_
        rw [← hy, List.getD_eq_getElem?_getD, List.getElem?_eq_getElem (by omega)]
        exact List.getElem_mem _
      clear hcx hy
      obtain ⟨T2, hT2⟩ : ∃ T2, T + (y % 4 + 1) = T2 := ⟨_, rfl⟩
      have hT4 : T < T2 ∧ T2 ≤ T + 4 := by omega
      have hTb := HK.out.2.2.2.t1
      have hTa := HK.out.2.2.2.t0
      have hwT : wrap64 (T + (y % 4 + 1)) = T2 := by rw [hT2]; unfold wrap64; omega
      clear hT2 hTb hTa
      obtain ⟨sv, hsv, hsz⟩ : ∃ sv, Utf8.encode (97 + (j : Int) % 26) = sv ∧ sv.size ≤ 256 := ⟨_, rfl, enc_size _⟩
      by_cases hdl : j < n1
      · have g2 : (j : Int) < (n1 : Int) := by omega
        obtain ⟨kb, ko, rfl, hck⟩ := (HIN.out wr hbw).2.1.bls (by have := (HIN.out wr hbw).2.1.lenq; omega)
        have ck := hck j (by have := (HIN.out wr hbw).2.1.lenq; omega)
        clear hck
        cases hb : ks.getD j false with
        | true =>
          rw [hb] at ck
          clear hb
          obtain ⟨w7, hw7, hk7, hz7⟩ : ∃ w7, wr.alloc (.cells #[.int .i64 T2, .string ⟨#[]⟩, .bool true] 34) = w7 ∧ Bk w7 wr.heap.size 34 #[.int .i64 T2, .string ⟨#[]⟩, .bool true] ∧ w7.heap.size = wr.heap.size + 1 := ⟨_, rfl, Bk.new _ _ _, by simp⟩
          have HS7 : Hid (Ns w.heap.size w5 w7 H (w.heap.size + 1) (w.heap.size + 2) w.heap.size B cs cg [wr.heap.size] u12 h F.reverse ∧ Bk w7 wr.heap.size 34 #[.int .i64 T2, .string ⟨#[]⟩, .bool true]) := ⟨HK.out.1.add (by rw [← hw7]; exact (Tn.refl _ _).alloc _) (Nat.le_refl _) (by omega), hk7⟩
          have a0 : w7.cell? ⟨B, 0, none⟩ = some (.int .i64 cs) := HS7.out.1.box.cell 0
          have a1 : w7.cell? ⟨B, 1, none⟩ = some (.int .i64 cg) := HS7.out.1.box.cell 1
          have b0 : w7.cell? ⟨wr.heap.size, 0, none⟩ = some (.int .i64 T2) := hk7.cell 0
          have b1 : w7.cell? ⟨wr.heap.size, 1, none⟩ = some (.string ⟨#[]⟩) := hk7.cell 1
          have b2 : w7.cell? ⟨wr.heap.size, 2, none⟩ = some (.bool true) := hk7.cell 2
          have HSZ : Hid ((⟨#[]⟩ : ByteArray).size ≤ 256) := (Nat.zero_le _)
          have HPU : Hid (Vr.putE F ⟨T2, ⟨#[]⟩, true⟩ = 0) := HK.out.2.2.2.putD T2 (by omega) hT4.1 hT4.2
          have HIS : Hid (Calls Try.prog 13 #[.pointer (some ⟨H, 0, none⟩), .int .i64 0, .agg #[.int .i64 cs, .int .i64 cg], .agg #[.int .i64 T2, .string ⟨#[]⟩, .bool true]] w7 fun e w' => e = .returned (.int .i64 0) ∧ Ns w.heap.size w5 w' H (w.heap.size + 1) (w.heap.size + 2) w.heap.size B cs cg [wr.heap.size] u12 (h.inst 0 (0 : Int).toNat ⟨T2, ⟨#[]⟩, true⟩) F.reverse ∧ Bk w' wr.heap.size 34 #[.int .i64 T2, .string ⟨#[]⟩, .bool true]) := by
            obtain ⟨h1, h2⟩ := HCS.out
            have K := HS7.out.1
            have k7 := HS7.out.2
            have N := HK.out.2.1
            have hgen := N.gens.gen (by omega)
            have hL : L.length = j := by rw [← HK.out.2.2.2.len, ← HK.out.2.2.1, List.length_map]
            have hpu := HPU.out
            rw [← HK.out.2.2.1] at hpu
            subst h1
            subst h2
            refine (install_ok K.mid.1 0 (by omega) (by rw [N.sh]) 0 1 N.cell.good ⟨T2, ⟨#[]⟩, true⟩ L N.cell.chn (by omega) N.cell.shut (by show (⟨#[]⟩ : ByteArray).size ≤ 9223372036854775807; have := HSZ.out; omega) hpu (by rw [N.sh]; show 0 < 50 - j; omega) (by rw [N.sh]; show 50 - j ≤ 65536; omega) (by rw [N.lv, N.sz]; omega) hgen.1 (by omega)).mono ?_
            rintro e w8 ⟨rfl, ha⟩
            exact ⟨rfl, K.call ha, ha.blk (by simp) k7⟩
          clear hk7 hz7
          go_wp2_with fail
          refine HIS.out.mono ?_
          rintro e w8 ⟨rfl, K8, k8⟩
          have HS8 : Hid (Ns w.heap.size w5 w8 H (w.heap.size + 1) (w.heap.size + 2) w.heap.size B cs cg [wr.heap.size] u12 (h.inst 0 (0 : Int).toNat ⟨T2, ⟨#[]⟩, true⟩) F.reverse) := K8
          have d0 : w8.cell? ⟨wr.heap.size, 0, none⟩ = some (.int .i64 T2) := k8.cell 0
          have d1 : w8.cell? ⟨wr.heap.size, 1, none⟩ = some (.string ⟨#[]⟩) := k8.cell 1
          have d2 : w8.cell? ⟨wr.heap.size, 2, none⟩ = some (.bool true) := k8.cell 2
          have HLN : Hid (F.reverse.length = j) := by unfold Hid; rw [List.length_reverse]; exact HK.out.2.2.2.len
          clear a0 a1 b0 b1 b2 K8 k8 HIS HS7
          go_wp2_with (at_builtin; refine app1L vknd Try.underlying46 vinfo rfl w8 rfl _ _ rfl (B + 1) u12 F.reverse rfl ⟨T2, ⟨#[]⟩, true⟩ _ rfl rfl _ rfl HS8.out.own (by rw [HLN.out]; unfold maxLen; omega) (by rw [HLN.out]; omega) HS8.out.lt.2.1 ?_; intro v9 w9 h1 h2 h3)
          have HS9 : Hid (Ns w.heap.size w5 w9 H (w.heap.size + 1) (w.heap.size + 2) w.heap.size B cs cg [] v9 (h.inst 0 (0 : Int).toNat ⟨T2, ⟨#[]⟩, true⟩) (⟨T2, ⟨#[]⟩, true⟩ :: F).reverse ∧ Nd (h.inst 0 (0 : Int).toNat ⟨T2, ⟨#[]⟩, true⟩) (j + 1) false (h.link (0 : Int).toNat ⟨T2, ⟨#[]⟩, true⟩ :: L) ∧ (h.link (0 : Int).toNat ⟨T2, ⟨#[]⟩, true⟩ :: L).map Ln.ver = ⟨T2, ⟨#[]⟩, true⟩ :: F ∧ Fs (⟨T2, ⟨#[]⟩, true⟩ :: F) (j + 1) T2) :=
            ⟨by rw [List.reverse_cons]; exact Ns.app HS8.out h1 h2 h3, HK.out.2.1.inst _ (by omega), by rw [List.map_cons, HK.out.2.2.1]; rfl, HK.out.2.2.2.cons _ hT4.1 hT4.2⟩
          clear h1 h2 h3
          go_wp2
          go_roundw
          case rel => exact ⟨j + 1, T2, _, _, _, by omega, by go_num, rfl, HS9⟩
          case measure => simp [intOf]; omega
        | false =>
          rw [hb] at ck
          clear hb
          obtain ⟨w7, hw7, hk7, hz7⟩ : ∃ w7, wr.alloc (.cells #[.int .i64 T2, .string sv, .bool false] 34) = w7 ∧ Bk w7 wr.heap.size 34 #[.int .i64 T2, .string sv, .bool false] ∧ w7.heap.size = wr.heap.size + 1 := ⟨_, rfl, Bk.new _ _ _, by simp⟩
          have HS7 : Hid (Ns w.heap.size w5 w7 H (w.heap.size + 1) (w.heap.size + 2) w.heap.size B cs cg [wr.heap.size] u12 h F.reverse ∧ Bk w7 wr.heap.size 34 #[.int .i64 T2, .string sv, .bool false]) := ⟨HK.out.1.add (by rw [← hw7]; exact (Tn.refl _ _).alloc _) (Nat.le_refl _) (by omega), hk7⟩
          have a0 : w7.cell? ⟨B, 0, none⟩ = some (.int .i64 cs) := HS7.out.1.box.cell 0
          have a1 : w7.cell? ⟨B, 1, none⟩ = some (.int .i64 cg) := HS7.out.1.box.cell 1
          have b0 : w7.cell? ⟨wr.heap.size, 0, none⟩ = some (.int .i64 T2) := hk7.cell 0
          have b1 : w7.cell? ⟨wr.heap.size, 1, none⟩ = some (.string sv) := hk7.cell 1
          have b2 : w7.cell? ⟨wr.heap.size, 2, none⟩ = some (.bool false) := hk7.cell 2
          have HSZ : Hid ((sv : ByteArray).size ≤ 256) := hsz
          have HPU : Hid (Vr.putE F ⟨T2, sv, false⟩ = 0) := HK.out.2.2.2.putK T2 _ (by omega) hT4.1 hT4.2 HSZ.out
          have HIS : Hid (Calls Try.prog 13 #[.pointer (some ⟨H, 0, none⟩), .int .i64 0, .agg #[.int .i64 cs, .int .i64 cg], .agg #[.int .i64 T2, .string sv, .bool false]] w7 fun e w' => e = .returned (.int .i64 0) ∧ Ns w.heap.size w5 w' H (w.heap.size + 1) (w.heap.size + 2) w.heap.size B cs cg [wr.heap.size] u12 (h.inst 0 (0 : Int).toNat ⟨T2, sv, false⟩) F.reverse ∧ Bk w' wr.heap.size 34 #[.int .i64 T2, .string sv, .bool false]) := by
            obtain ⟨h1, h2⟩ := HCS.out
            have K := HS7.out.1
            have k7 := HS7.out.2
            have N := HK.out.2.1
            have hgen := N.gens.gen (by omega)
            have hL : L.length = j := by rw [← HK.out.2.2.2.len, ← HK.out.2.2.1, List.length_map]
            have hpu := HPU.out
            rw [← HK.out.2.2.1] at hpu
            subst h1
            subst h2
            refine (install_ok K.mid.1 0 (by omega) (by rw [N.sh]) 0 1 N.cell.good ⟨T2, sv, false⟩ L N.cell.chn (by omega) N.cell.shut (by show (sv : ByteArray).size ≤ 9223372036854775807; have := HSZ.out; omega) hpu (by rw [N.sh]; show 0 < 50 - j; omega) (by rw [N.sh]; show 50 - j ≤ 65536; omega) (by rw [N.lv, N.sz]; omega) hgen.1 (by omega)).mono ?_
            rintro e w8 ⟨rfl, ha⟩
            exact ⟨rfl, K.call ha, ha.blk (by simp) k7⟩
          clear hk7 hz7
          go_wp2_with fail
          refine HIS.out.mono ?_
          rintro e w8 ⟨rfl, K8, k8⟩
          have HS8 : Hid (Ns w.heap.size w5 w8 H (w.heap.size + 1) (w.heap.size + 2) w.heap.size B cs cg [wr.heap.size] u12 (h.inst 0 (0 : Int).toNat ⟨T2, sv, false⟩) F.reverse) := K8
          have d0 : w8.cell? ⟨wr.heap.size, 0, none⟩ = some (.int .i64 T2) := k8.cell 0
          have d1 : w8.cell? ⟨wr.heap.size, 1, none⟩ = some (.string sv) := k8.cell 1
          have d2 : w8.cell? ⟨wr.heap.size, 2, none⟩ = some (.bool false) := k8.cell 2
          have HLN : Hid (F.reverse.length = j) := by unfold Hid; rw [List.length_reverse]; exact HK.out.2.2.2.len
          clear a0 a1 b0 b1 b2 K8 k8 HIS HS7
          go_wp2_with (at_builtin; refine app1L vknd Try.underlying46 vinfo rfl w8 rfl _ _ rfl (B + 1) u12 F.reverse rfl ⟨T2, sv, false⟩ _ rfl rfl _ rfl HS8.out.own (by rw [HLN.out]; unfold maxLen; omega) (by rw [HLN.out]; omega) HS8.out.lt.2.1 ?_; intro v9 w9 h1 h2 h3)
          have HS9 : Hid (Ns w.heap.size w5 w9 H (w.heap.size + 1) (w.heap.size + 2) w.heap.size B cs cg [] v9 (h.inst 0 (0 : Int).toNat ⟨T2, sv, false⟩) (⟨T2, sv, false⟩ :: F).reverse ∧ Nd (h.inst 0 (0 : Int).toNat ⟨T2, sv, false⟩) (j + 1) false (h.link (0 : Int).toNat ⟨T2, sv, false⟩ :: L) ∧ (h.link (0 : Int).toNat ⟨T2, sv, false⟩ :: L).map Ln.ver = ⟨T2, sv, false⟩ :: F ∧ Fs (⟨T2, sv, false⟩ :: F) (j + 1) T2) :=
            ⟨by rw [List.reverse_cons]; exact Ns.app HS8.out h1 h2 h3, HK.out.2.1.inst _ (by omega), by rw [List.map_cons, HK.out.2.2.1]; rfl, HK.out.2.2.2.cons _ hT4.1 hT4.2⟩
          clear h1 h2 h3
          go_wp2
          go_roundw
          case rel => exact ⟨j + 1, T2, _, _, _, by omega, by go_num, rfl, HS9⟩
          case measure => simp [intOf]; omega
      · have g2 : ¬ (j : Int) < (n1 : Int) := by omega
        obtain ⟨w7, hw7, hk7, hz7⟩ : ∃ w7, wr.alloc (.cells #[.int .i64 T2, .string sv, .bool false] 34) = w7 ∧ Bk w7 wr.heap.size 34 #[.int .i64 T2, .string sv, .bool false] ∧ w7.heap.size = wr.heap.size + 1 := ⟨_, rfl, Bk.new _ _ _, by simp⟩
        have HS7 : Hid (Ns w.heap.size w5 w7 H (w.heap.size + 1) (w.heap.size + 2) w.heap.size B cs cg [wr.heap.size] u12 h F.reverse ∧ Bk w7 wr.heap.size 34 #[.int .i64 T2, .string sv, .bool false]) := ⟨HK.out.1.add (by rw [← hw7]; exact (Tn.refl _ _).alloc _) (Nat.le_refl _) (by omega), hk7⟩
        have a0 : w7.cell? ⟨B, 0, none⟩ = some (.int .i64 cs) := HS7.out.1.box.cell 0
        have a1 : w7.cell? ⟨B, 1, none⟩ = some (.int .i64 cg) := HS7.out.1.box.cell 1
        have b0 : w7.cell? ⟨wr.heap.size, 0, none⟩ = some (.int .i64 T2) := hk7.cell 0
        have b1 : w7.cell? ⟨wr.heap.size, 1, none⟩ = some (.string sv) := hk7.cell 1
        have b2 : w7.cell? ⟨wr.heap.size, 2, none⟩ = some (.bool false) := hk7.cell 2
        have HSZ : Hid ((sv : ByteArray).size ≤ 256) := hsz
        have HPU : Hid (Vr.putE F ⟨T2, sv, false⟩ = 0) := HK.out.2.2.2.putK T2 _ (by omega) hT4.1 hT4.2 HSZ.out
        have HIS : Hid (Calls Try.prog 13 #[.pointer (some ⟨H, 0, none⟩), .int .i64 0, .agg #[.int .i64 cs, .int .i64 cg], .agg #[.int .i64 T2, .string sv, .bool false]] w7 fun e w' => e = .returned (.int .i64 0) ∧ Ns w.heap.size w5 w' H (w.heap.size + 1) (w.heap.size + 2) w.heap.size B cs cg [wr.heap.size] u12 (h.inst 0 (0 : Int).toNat ⟨T2, sv, false⟩) F.reverse ∧ Bk w' wr.heap.size 34 #[.int .i64 T2, .string sv, .bool false]) := by
          obtain ⟨h1, h2⟩ := HCS.out
          have K := HS7.out.1
          have k7 := HS7.out.2
          have N := HK.out.2.1
          have hgen := N.gens.gen (by omega)
          have hL : L.length = j := by rw [← HK.out.2.2.2.len, ← HK.out.2.2.1, List.length_map]
          have hpu := HPU.out
          rw [← HK.out.2.2.1] at hpu
          subst h1
          subst h2
          refine (install_ok K.mid.1 0 (by omega) (by rw [N.sh]) 0 1 N.cell.good ⟨T2, sv, false⟩ L N.cell.chn (by omega) N.cell.shut (by show (sv : ByteArray).size ≤ 9223372036854775807; have := HSZ.out; omega) hpu (by rw [N.sh]; show 0 < 50 - j; omega) (by rw [N.sh]; show 50 - j ≤ 65536; omega) (by rw [N.lv, N.sz]; omega) hgen.1 (by omega)).mono ?_
          rintro e w8 ⟨rfl, ha⟩
          exact ⟨rfl, K.call ha, ha.blk (by simp) k7⟩
        clear hk7 hz7
        go_wp2_with fail
        refine HIS.out.mono ?_
        rintro e w8 ⟨rfl, K8, k8⟩
        have HS8 : Hid (Ns w.heap.size w5 w8 H (w.heap.size + 1) (w.heap.size + 2) w.heap.size B cs cg [wr.heap.size] u12 (h.inst 0 (0 : Int).toNat ⟨T2, sv, false⟩) F.reverse) := K8
        have d0 : w8.cell? ⟨wr.heap.size, 0, none⟩ = some (.int .i64 T2) := k8.cell 0
        have d1 : w8.cell? ⟨wr.heap.size, 1, none⟩ = some (.string sv) := k8.cell 1
        have d2 : w8.cell? ⟨wr.heap.size, 2, none⟩ = some (.bool false) := k8.cell 2
        have HLN : Hid (F.reverse.length = j) := by unfold Hid; rw [List.length_reverse]; exact HK.out.2.2.2.len
        clear a0 a1 b0 b1 b2 K8 k8 HIS HS7
        go_wp2_with (at_builtin; refine app1L vknd Try.underlying46 vinfo rfl w8 rfl _ _ rfl (B + 1) u12 F.reverse rfl ⟨T2, sv, false⟩ _ rfl rfl _ rfl HS8.out.own (by rw [HLN.out]; unfold maxLen; omega) (by rw [HLN.out]; omega) HS8.out.lt.2.1 ?_; intro v9 w9 h1 h2 h3)
        have HS9 : Hid (Ns w.heap.size w5 w9 H (w.heap.size + 1) (w.heap.size + 2) w.heap.size B cs cg [] v9 (h.inst 0 (0 : Int).toNat ⟨T2, sv, false⟩) (⟨T2, sv, false⟩ :: F).reverse ∧ Nd (h.inst 0 (0 : Int).toNat ⟨T2, sv, false⟩) (j + 1) false (h.link (0 : Int).toNat ⟨T2, sv, false⟩ :: L) ∧ (h.link (0 : Int).toNat ⟨T2, sv, false⟩ :: L).map Ln.ver = ⟨T2, sv, false⟩ :: F ∧ Fs (⟨T2, sv, false⟩ :: F) (j + 1) T2) :=
          ⟨by rw [List.reverse_cons]; exact Ns.app HS8.out h1 h2 h3, HK.out.2.1.inst _ (by omega), by rw [List.map_cons, HK.out.2.2.1]; rfl, HK.out.2.2.2.cons _ hT4.1 hT4.2⟩
        clear h1 h2 h3
        go_wp2
        go_roundw
        case rel => exact ⟨j + 1, T2, _, _, _, by omega, by go_num, rfl, HS9⟩
        case measure => simp [intOf]; omega
    · have hli : ¬ (j : Int) < (n0 : Int) := by omega
      have hjn : n0 = j := by omega
      subst hjn
      have HFS : Hid (Fs F n0 T) := HK.out.2.2.2
      have HST : Hid (Ns w.heap.size w5 wr H (w.heap.size + 1) (w.heap.size + 2) w.heap.size B cs cg [] u12 h F.reverse ∧ Nd h n0 false L ∧ Says 0 F (L.map Ln.ver)) := ⟨HK.out.1, HK.out.2.1, by rw [HK.out.2.2.1]; exact ⟨HK.out.2.2.2.falls, fun t _ => Sub.refl _⟩⟩
      have hT0 : 0 ≤ T ∧ T ≤ 200 := ⟨HFS.out.t0, by have := HFS.out.t1; omega⟩
      obtain ⟨T1, hT1⟩ : ∃ T1, T + 1 = T1 := ⟨_, rfl⟩
      have hwT : wrap64 T1 = T1 := by unfold wrap64; omega
      obtain ⟨pl, cl, rfl⟩ : ∃ p c, u12 = .slice p n0 c := by
        obtain ⟨p, c, hv, -⟩ := HST.out.1.own.els vknd
        rw [List.length_reverse, HFS.out.len] at hv
        exact ⟨p, c, hv⟩
      have HB5 : Hid (Below w.heap.size w w5) := HS6.out.2
      clear HK HS6
      go_wp2_with fail
      go_loopw [108, 16] (fun i mk wr => ∃ (q : Nat) (M : Int) (h : Hp) (b : Bool) (L : List Ln), q ≤ n2 ∧ i = .int .i64 q ∧ mk = .int .i64 M ∧ 0 ≤ M ∧ M ≤ 7 * (q : Int) ∧ Hid (Ns w.heap.size w5 wr H (w.heap.size + 1) (w.heap.size + 2) w.heap.size B cs cg [] (.slice pl n0 cl) h F.reverse ∧ Nd h n0 b L ∧ Says M F (L.map Ln.ver))) (fun i _ _ => n2 - (intOf i).toNat)
      case atStart => exact ⟨0, 0, h, false, L, Nat.zero_le _, rfl, rfl, Int.le_refl _, by simp, HST.out⟩
      case round =>
        clear HST
        obtain ⟨q, M, h, b, L, hq, rfl, rfl, hM0, hM7, HK⟩ := hrel
        have hbw : Below w.heap.size w wr := HB5.out.trans HK.out.1.mid.2.1
        by_cases hlt : q < n2
        · have hli2 : (q : Int) < (n2 : Int) := by omega
          have g3 : (0 : Int) ≤ (q : Int) := by omega
          obtain ⟨zb, zo, rfl, hcx⟩ := (HIN.out wr hbw).2.2.bys (by have := (HIN.out wr hbw).2.2.lenq; omega)
          have cx := hcx q (by have := (HIN.out wr hbw).2.2.lenq; omega)
          obtain ⟨y, hy⟩ : ∃ y, ms.getD q 0 = y := ⟨_, rfl⟩
          rw [hy] at cx
          have hyb : 0 ≤ y ∧ y < 256 := by
            have hl := (HIN.out wr hbw).2.2.lenq
            refine (HIN.out wr hbw).2.2.byte y ?_
            rw [← hy, List.getD_eq_getElem?_getD, List.getElem?_eq_getElem (by omega)]
            exact List.getElem_mem _
          clear hcx hy
          obtain ⟨M2, hM2⟩ : ∃ M2, M + y % 8 = M2 := ⟨_, rfl⟩
          have hM3 : M ≤ M2 ∧ M2 ≤ 7 * ((q + 1 : Nat) : Int) := by omega
          have HPR := prune_needs HK.out.1 HK.out.2.1 HK.out.2.2 hM3.1 HCS.out
          have HPN : Hid (Calls Try.prog 14 #[.pointer (some ⟨H, 0, none⟩), .agg #[.int .i64 cs, .int .i64 cg], .int .i64 M2] wr fun e w' => ∃ n c, e = .returned (.tuple #[.int .i64 n, .bool c, .int .i64 0]) ∧ ∃ h2 b2 L2, Ns w.heap.size w5 w' H (w.heap.size + 1) (w.heap.size + 2) w.heap.size B cs cg [] (.slice pl n0 cl) h2 F.reverse ∧ Nd h2 n0 b2 L2 ∧ Says M2 F (L2.map Ln.ver)) := HPR
          have a0 : wr.cell? ⟨B, 0, none⟩ = some (.int .i64 cs) := HK.out.1.box.cell 0
          have a1 : wr.cell? ⟨B, 1, none⟩ = some (.int .i64 cg) := HK.out.1.box.cell 1
          clear HPR HK
          go_wp2_with fail
          refine HPN.out.mono ?_
          rintro e w7 ⟨rn, rc, rfl, h2, b2, L2, K7, N7, S7⟩
          have HK7 : Hid (Ns w.heap.size w5 w7 H (w.heap.size + 1) (w.heap.size + 2) w.heap.size B cs cg [] (.slice pl n0 cl) h2 F.reverse) := K7
          have HN7 : Hid (Nd h2 n0 b2 L2 ∧ Says M2 F (L2.map Ln.ver)) := ⟨N7, S7⟩
          clear K7 N7 S7 a0 a1 HPN
          go_wp2_with fail
          go_loopw [22] (fun a wr => ∃ t : Int, a = .int .i64 t ∧ M2 ≤ t ∧ Hid (Ns w.heap.size w5 wr H (w.heap.size + 1) (w.heap.size + 2) w.heap.size B cs cg [] (.slice pl n0 cl) h2 F.reverse)) (fun a _ => (T1 + 1 - intOf a).toNat)
          case atStart => exact ⟨M2, rfl, Int.le_refl _, HK7.out⟩
          case round =>
            clear HK7
            obtain ⟨t, rfl, hMt, HK⟩ := hrel
            by_cases hle : t ≤ T1
            · obtain ⟨W0, hW0⟩ : ∃ W0, wr.heap.size = W0 := ⟨_, rfl⟩
              obtain ⟨w8, hw8, hk8, t8⟩ : ∃ w8, wr.alloc (.cells #[.int .i64 0, .string ⟨#[]⟩, .bool false] 34) = w8 ∧ Bk w8 W0 34 #[.int .i64 0, .string ⟨#[]⟩, .bool false] ∧ Tn [] wr w8 := ⟨_, rfl, by rw [← hW0]; exact Bk.new _ _ _, (Tn.refl _ _).alloc _⟩
              have HK8 : Hid (Ns w.heap.size w5 w8 H (w.heap.size + 1) (w.heap.size + 2) w.heap.size B cs cg [W0] (.slice pl n0 cl) h2 F.reverse ∧ Bk w8 W0 34 #[.int .i64 0, .string ⟨#[]⟩, .bool false]) := ⟨HK.out.add t8 (by omega) hk8.lt, hk8⟩
              have HW0 : Hid (W0 ≠ B ∧ ∀ g, (Value.slice pl n0 cl).ownBlock = some g → g ≠ W0) := by
                have hl := HK.out.lt
                refine ⟨by omega, fun g hg => ?_⟩
                have := hl.2.2 g hg
                omega
              clear hk8 t8 HK
              go_wp2_with fail
              go_loopw [136, 24] (fun i isv wr => ∃ (r : Nat) (o : Option Vs) (y : Vs) (ob : Bool), r ≤ n0 ∧ i = .int .i64 r ∧ isv = .bool ob ∧ Hid (o.isSome = ob ∧ o = wnt t (F.reverse.take r) ∧ o.getD Vs.zero = y) ∧ Hid (Ns w.heap.size w5 wr H (w.heap.size + 1) (w.heap.size + 2) w.heap.size B cs cg [W0] (.slice pl n0 cl) h2 F.reverse ∧ Bk wr W0 34 #[.int .i64 y.ts, .string y.val, .bool y.del])) (fun i _ _ => n0 - (intOf i).toNat)
              case atStart => exact ⟨0, none, Vs.zero, false, Nat.zero_le _, rfl, rfl, ⟨rfl, rfl, rfl⟩, HK8.out⟩
              case round =>
                clear HK8
                obtain ⟨r, o, y, ob, hr, rfl, rfl, HO, HK⟩ := hrel
                by_cases hrt : r < n0
                · have hli3 : (r : Int) < (n0 : Int) := by omega
                  have g4 : (0 : Int) ≤ (r : Int) := by omega
                  obtain ⟨p, c, hv, he, -, -⟩ := HK.out.1.own.els vknd
                  simp only [Value.slice.injEq] at hv
                  obtain ⟨rfl, -, -⟩ := hv
                  obtain ⟨rb, ro, x, rfl, hgx, e0, e1, e2⟩ := Vrs.cells he (j := r) (by rw [List.length_reverse, HFS.out.len]; exact hrt)
                  have HSN : Hid (wnt t (F.reverse.take (r + 1)) = if x.ts ≤ t then some x else o) := by
                    unfold Hid
                    rw [List.take_add_one, hgx, HO.out.2.1]
                    exact wnt_snoc _ _ _
                  obtain ⟨x1, x2, x3⟩ := x
                  obtain ⟨y1, y2, y3⟩ := y
                  clear hgx he
                  obtain ⟨V0, hV0⟩ : ∃ V0, wr.heap.size = V0 := ⟨_, rfl⟩
                  obtain ⟨w9, hw9, hk9, t9⟩ : ∃ w9, wr.alloc (.cells #[.int .i64 x1, .string x2, .bool x3] 34) = w9 ∧ Bk w9 V0 34 #[.int .i64 x1, .string x2, .bool x3] ∧ Tn [] wr w9 := ⟨_, rfl, by rw [← hV0]; exact Bk.new _ _ _, (Tn.refl _ _).alloc _⟩
                  have HK9 : Hid (Ns w.heap.size w5 w9 H (w.heap.size + 1) (w.heap.size + 2) w.heap.size B cs cg [W0] (.slice (some ⟨rb, ro, none⟩) n0 cl) h2 F.reverse ∧ Bk w9 W0 34 #[.int .i64 y1, .string y2, .bool y3]) := ⟨HK.out.1.quiet t9, HK.out.2.tn t9 (by simp)⟩
                  have v0 : w9.cell? ⟨V0, 0, none⟩ = some (.int .i64 x1) := hk9.cell 0
                  have v1 : w9.cell? ⟨V0, 1, none⟩ = some (.string x2) := hk9.cell 1
                  have v2 : w9.cell? ⟨V0, 2, none⟩ = some (.bool x3) := hk9.cell 2
                  by_cases hx : x1 ≤ t
                  · have u0 : w9.cell? ⟨W0, 0, none⟩ = some (.int .i64 y1) := HK9.out.2.cell 0
                    have u1 : w9.cell? ⟨W0, 1, none⟩ = some (.string y2) := HK9.out.2.cell 1
                    have u2 : w9.cell? ⟨W0, 2, none⟩ = some (.bool y3) := HK9.out.2.cell 2
                    have f0 : w9.frozen? ⟨W0, 0, none⟩ = false := HK9.out.2.frozen 0
                    have f1 : w9.frozen? ⟨W0, 1, none⟩ = false := HK9.out.2.frozen 1
                    have f2 : w9.frozen? ⟨W0, 2, none⟩ = false := HK9.out.2.frozen 2
                    obtain ⟨w10, hw10, t10, hk10⟩ : ∃ w10, ((w9.setCell ⟨W0, 0, none⟩ (.int .i64 x1)).setCell ⟨W0, 1, none⟩ (.string x2)).setCell ⟨W0, 2, none⟩ (.bool x3) = w10 ∧ Tn [W0] w9 w10 ∧ Bk w10 W0 34 #[.int .i64 x1, .string x2, .bool x3] := ⟨_, rfl, (((Tn.refl _ _).setCell (.inl (by simp)) _).setCell (.inl (by simp)) _).setCell (.inl (by simp)) _, ((HK9.out.2.set 0 _).set 1 _).set 2 _⟩
                    have HK10 : Hid (Ns w.heap.size w5 w10 H (w.heap.size + 1) (w.heap.size + 2) w.heap.size B cs cg [W0] (.slice (some ⟨rb, ro, none⟩) n0 cl) h2 F.reverse ∧ Bk w10 W0 34 #[.int .i64 x1, .string x2, .bool x3]) := ⟨HK9.out.1.own1 t10 (by simp) (fun g hg => by rw [List.mem_singleton.1 hg]; exact ⟨fun e => HW0.out.2 _ e rfl, HW0.out.1⟩), hk10⟩
                    have HO2 : Hid ((some (⟨x1, x2, x3⟩ : Vs)).isSome = true ∧ some (⟨x1, x2, x3⟩ : Vs) = wnt t (F.reverse.take (r + 1)) ∧ (some (⟨x1, x2, x3⟩ : Vs)).getD Vs.zero = ⟨x1, x2, x3⟩) := ⟨rfl, by rw [HSN.out, if_pos hx], rfl⟩
                    clear hk9 t9 HK9 HK hk10 t10 HSN
                    go_wp2
                    go_roundw
                    case rel => exact ⟨r + 1, some ⟨x1, x2, x3⟩, ⟨x1, x2, x3⟩, true, by omega, by go_num, rfl, HO2, HK10⟩
                    case measure => simp [intOf]; omega
                  · have HO2 : Hid (o.isSome = ob ∧ o = wnt t (F.reverse.take (r + 1)) ∧ o.getD Vs.zero = ⟨y1, y2, y3⟩) := ⟨HO.out.1, by rw [HSN.out, if_neg hx], HO.out.2.2⟩
                    clear hk9 t9 HK HSN
                    go_wp2
                    go_roundw
                    case rel => exact ⟨r + 1, o, ⟨y1, y2, y3⟩, ob, by omega, by go_num, rfl, HO2, HK9⟩
                    case measure => simp [intOf]; omega
                · have hli3 : ¬ (r : Int) < (n0 : Int) := by omega
                  have hrk : n0 = r := by omega
                  subst hrk
                  have HOE : Hid (o = Vr.at? F t) := by
                    unfold Hid
                    rw [HO.out.2.1, List.take_of_length_le (by rw [List.length_reverse, HFS.out.len]; exact Nat.le_refl _), wnt_at]
                  have HSB : Hid (Sub (Vr.at? (L2.map Ln.ver) t) o) := by
                    unfold Hid
                    rw [HOE.out]
                    exact HN7.out.2.2 t hMt
                  have HRD : Hid (Calls Try.prog 15 #[.pointer (some ⟨H, 0, none⟩), .agg #[.int .i64 cs, .int .i64 cg], .int .i64 t] wr fun e w' => e = .returned (.tuple #[((Vr.at? (L2.map Ln.ver) t).getD Vs.zero).v, .bool (Vr.at? (L2.map Ln.ver) t).isSome, .int .i64 0]) ∧ Below wr.heap.size wr w') := read_needs HK.out.1 HN7.out.1 HCS.out
                  have HKE : Hid (Ns w.heap.size w5 wr H (w.heap.size + 1) (w.heap.size + 2) w.heap.size B cs cg [] (.slice pl n0 cl) h2 F.reverse) := HK.out.1.drop
                  have z0 : wr.cell? ⟨B, 0, none⟩ = some (.int .i64 cs) := HK.out.1.box.cell 0
                  have z1 : wr.cell? ⟨B, 1, none⟩ = some (.int .i64 cg) := HK.out.1.box.cell 1
                  obtain ⟨y1, y2, y3⟩ := y
                  have HKB := (show Hid (Bk wr W0 34 #[.int .i64 y1, .string y2, .bool y3]) from HK.out.2)
                  clear HK HOE
                  rcases HSB.out with he | ⟨he, vv, he2, hvd⟩
                  · rw [he] at HRD
                    cases o with
                    | none =>
                      obtain rfl : false = ob := HO.out.1
                      clear HSB HO
                      have HRE : Hid (Calls Try.prog 15 #[.pointer (some ⟨H, 0, none⟩), .agg #[.int .i64 cs, .int .i64 cg], .int .i64 t] wr fun e w' => e = .returned (.tuple #[.agg #[.int .i64 0, .string ⟨#[]⟩, .bool zd], .bool false, .int .i64 0]) ∧ Below wr.heap.size wr w') := by
                        rw [HZD.out]; exact HRD
                      clear HRD
                      go_wp2_with fail
                      refine HRE.out.mono ?_
                      rintro e w11 ⟨rfl, hb11⟩
                      obtain ⟨V1, hV1⟩ : ∃ V1, w11.heap.size = V1 := ⟨_, rfl⟩
                      obtain ⟨w12, hw12, hk12, t12⟩ : ∃ w12, w11.alloc (.cells #[.int .i64 0, .string ⟨#[]⟩, .bool zd] 34) = w12 ∧ Bk w12 V1 34 #[.int .i64 0, .string ⟨#[]⟩, .bool zd] ∧ Tn [] w11 w12 := ⟨_, rfl, by rw [← hV1]; exact Bk.new _ _ _, (Tn.refl _ _).alloc _⟩
                      have HK12 : Hid (Ns w.heap.size w5 w12 H (w.heap.size + 1) (w.heap.size + 2) w.heap.size B cs cg [] (.slice pl n0 cl) h2 F.reverse) := (HKE.out.below hb11).quiet t12
                      have hkw := (HKB.out.tn (Tn.of_below hb11 []) (by simp)).tn t12 (by simp)
                      have w0' : w12.cell? ⟨W0, 0, none⟩ = some (.int .i64 y1) := hkw.cell 0
                      have w1' : w12.cell? ⟨W0, 1, none⟩ = some (.string y2) := hkw.cell 1
                      have w2' : w12.cell? ⟨W0, 2, none⟩ = some (.bool y3) := hkw.cell 2
                      have v0 : w12.cell? ⟨V1, 0, none⟩ = some (.int .i64 0) := hk12.cell 0
                      have v1 : w12.cell? ⟨V1, 1, none⟩ = some (.string ⟨#[]⟩) := hk12.cell 1
                      have v2 : w12.cell? ⟨V1, 2, none⟩ = some (.bool zd) := hk12.cell 2
                      clear hk12 t12 hkw hb11 HKE HKB z0 z1 HRE
                      go_wp2
                      go_roundw
                      case rel => exact ⟨t + 1, by go_num, by omega, HK12⟩
                      case measure => simp [intOf]; omega
                    | some x =>
                      obtain rfl : true = ob := HO.out.1
                      obtain rfl : x = ⟨y1, y2, y3⟩ := HO.out.2.2
                      clear HSB HO
                      have HRE : Hid (Calls Try.prog 15 #[.pointer (some ⟨H, 0, none⟩), .agg #[.int .i64 cs, .int .i64 cg], .int .i64 t] wr fun e w' => e = .returned (.tuple #[.agg #[.int .i64 y1, .string y2, .bool y3], .bool true, .int .i64 0]) ∧ Below wr.heap.size wr w') := by
                        exact HRD
                      clear HRD
                      go_wp2_with fail
                      refine HRE.out.mono ?_
                      rintro e w11 ⟨rfl, hb11⟩
                      obtain ⟨V1, hV1⟩ : ∃ V1, w11.heap.size = V1 := ⟨_, rfl⟩
                      obtain ⟨w12, hw12, hk12, t12⟩ : ∃ w12, w11.alloc (.cells #[.int .i64 y1, .string y2, .bool y3] 34) = w12 ∧ Bk w12 V1 34 #[.int .i64 y1, .string y2, .bool y3] ∧ Tn [] w11 w12 := ⟨_, rfl, by rw [← hV1]; exact Bk.new _ _ _, (Tn.refl _ _).alloc _⟩
                      have HK12 : Hid (Ns w.heap.size w5 w12 H (w.heap.size + 1) (w.heap.size + 2) w.heap.size B cs cg [] (.slice pl n0 cl) h2 F.reverse) := (HKE.out.below hb11).quiet t12
                      have hkw := (HKB.out.tn (Tn.of_below hb11 []) (by simp)).tn t12 (by simp)
                      have w0' : w12.cell? ⟨W0, 0, none⟩ = some (.int .i64 y1) := hkw.cell 0
                      have w1' : w12.cell? ⟨W0, 1, none⟩ = some (.string y2) := hkw.cell 1
                      have w2' : w12.cell? ⟨W0, 2, none⟩ = some (.bool y3) := hkw.cell 2
                      have v0 : w12.cell? ⟨V1, 0, none⟩ = some (.int .i64 y1) := hk12.cell 0
                      have v1 : w12.cell? ⟨V1, 1, none⟩ = some (.string y2) := hk12.cell 1
                      have v2 : w12.cell? ⟨V1, 2, none⟩ = some (.bool y3) := hk12.cell 2
                      clear hk12 t12 hkw hb11 HKE HKB z0 z1 HRE
                      go_wp2
                      go_roundw
                      case rel => exact ⟨t + 1, by go_num, by omega, HK12⟩
                      case measure => simp [intOf]; omega
                  · rw [he] at HRD
                    subst he2
                    obtain rfl : true = ob := HO.out.1
                    obtain rfl : vv = ⟨y1, y2, y3⟩ := HO.out.2.2
                    obtain rfl : y3 = true := hvd
                    clear HSB HO
                    have HRE : Hid (Calls Try.prog 15 #[.pointer (some ⟨H, 0, none⟩), .agg #[.int .i64 cs, .int .i64 cg], .int .i64 t] wr fun e w' => e = .returned (.tuple #[.agg #[.int .i64 0, .string ⟨#[]⟩, .bool zd], .bool false, .int .i64 0]) ∧ Below wr.heap.size wr w') := by
                      rw [HZD.out]; exact HRD
                    clear HRD
                    go_wp2_with fail
                    refine HRE.out.mono ?_
                    rintro e w11 ⟨rfl, hb11⟩
                    obtain ⟨V1, hV1⟩ : ∃ V1, w11.heap.size = V1 := ⟨_, rfl⟩
                    obtain ⟨w12, hw12, hk12, t12⟩ : ∃ w12, w11.alloc (.cells #[.int .i64 0, .string ⟨#[]⟩, .bool zd] 34) = w12 ∧ Bk w12 V1 34 #[.int .i64 0, .string ⟨#[]⟩, .bool zd] ∧ Tn [] w11 w12 := ⟨_, rfl, by rw [← hV1]; exact Bk.new _ _ _, (Tn.refl _ _).alloc _⟩
                    have HK12 : Hid (Ns w.heap.size w5 w12 H (w.heap.size + 1) (w.heap.size + 2) w.heap.size B cs cg [] (.slice pl n0 cl) h2 F.reverse) := (HKE.out.below hb11).quiet t12
                    have hkw := (HKB.out.tn (Tn.of_below hb11 []) (by simp)).tn t12 (by simp)
                    have w0' : w12.cell? ⟨W0, 0, none⟩ = some (.int .i64 y1) := hkw.cell 0
                    have w1' : w12.cell? ⟨W0, 1, none⟩ = some (.string y2) := hkw.cell 1
                    have w2' : w12.cell? ⟨W0, 2, none⟩ = some (.bool true) := hkw.cell 2
                    have v0 : w12.cell? ⟨V1, 0, none⟩ = some (.int .i64 0) := hk12.cell 0
                    have v1 : w12.cell? ⟨V1, 1, none⟩ = some (.string ⟨#[]⟩) := hk12.cell 1
                    have v2 : w12.cell? ⟨V1, 2, none⟩ = some (.bool zd) := hk12.cell 2
                    clear hk12 t12 hkw hb11 HKE HKB z0 z1 HRE
                    go_wp2
                    go_roundw
                    case rel => exact ⟨t + 1, by go_num, by omega, HK12⟩
                    case measure => simp [intOf]; omega
            · have HKF := (show Hid (Ns w.heap.size w5 wr H (w.heap.size + 1) (w.heap.size + 2) w.heap.size B cs cg [] (.slice pl n0 cl) h2 F.reverse ∧ Nd h2 n0 b2 L2 ∧ Says M2 F (L2.map Ln.ver)) from ⟨HK.out, HN7.out⟩)
              clear HK HN7
              go_wp2
              go_roundw
              case rel => exact ⟨q + 1, M2, h2, b2, L2, by omega, by go_num, rfl, by omega, hM3.2, HKF⟩
              case measure => simp [intOf]; omega
        · have hli2 : ¬ (q : Int) < (n2 : Int) := by omega
          have HSL : Hid (Calls Try.prog 16 #[.pointer (some ⟨H, 0, none⟩)] wr fun e w' => e = .returned (.int .i64 0) ∧ Below wr.heap.size wr w') := hstale_zero HK.out.1.mid.1 HK.out.2.1.st.1 HK.out.2.1.st.2
          have HBW : Hid (Below w.heap.size w wr) := hbw
          clear HK hbw
          go_wp2_with fail
          refine HSL.out.mono ?_
          rintro e w7 ⟨rfl, hb7⟩
          have HB7 : Hid (Below w.heap.size w w7) := HBW.out.trans (hb7.mono HBW.out.size)
          clear hb7 HSL
          go_wp2
          go_ret
          exact ⟨rfl, HB7.out⟩

set_option maxHeartbeats 3000000 in
theorem walk_needsB (p0 : Option Addr) (n0 c0 : Nat) (xs : List Int) (p1 : Option Addr) (n1 c1 : Nat) (ks : List Bool) (p2 : Option Addr) (n2 c2 : Nat) (ms : List Int) (w : World) (hm : 50 < (n0 : Int)) (i0 : InB 140737488351232 w p0 n0 c0 xs) (i1 : InK w p1 n1 c1 ks) (i2 : InB 140737488351232 w p2 n2 c2 ms) :
    Calls Try.prog 4 #[.slice p0 n0 c0, .slice p1 n1 c1, .slice p2 n2 c2] w fun e w' => e = .returned (.bool true) ∧ Below w.heap.size w w' := by
  haveI : Inhabited Cl := ⟨Cl.zero⟩
  haveI : Inhabited Ln := ⟨Ln.zero⟩
  have HIN : Hid (∀ W, Below w.heap.size w W → InB 140737488351232 W p0 n0 c0 xs ∧ InK W p1 n1 c1 ks ∧ InB 140737488351232 W p2 n2 c2 ms) := fun W hb => ⟨i0.below hb, i1.below hb, i2.below hb⟩
  have hk5 : 50 ≤ 50 := by omega
  have hkn : 50 ≤ n0 := by omega
  have q0 := i0.le
  have q1 := i0.room
  have q2 := i1.le
  have q3 := i1.room
  have q4 := i2.le
  have q5 := i2.room
  have hk0 : (0 : Int) ≤ 50 := by omega
  have hkc : 50 ≤ (c0 : Int) := by omega
  obtain ⟨cs, hcs⟩ : ∃ cs : Int, cs = 0 := ⟨_, rfl⟩
  obtain ⟨cg, hcg⟩ : ∃ cg : Int, cg = 1 := ⟨_, rfl⟩
  have HCS : Hid (cs = 0 ∧ cg = 1) := ⟨hcs, hcg⟩
  obtain ⟨zd, hzd⟩ : ∃ zd : Bool, zd = false := ⟨_, rfl⟩
  have HZD : Hid (zd = false) := hzd
  clear hcs hcg i0 i1 i2 hzd
  go_enter Try.func4, Try.ntmps4
  go_wp2_with fail
  refine (new_any w).mono ?_
  rintro e w1 ⟨rfl, he1, hb1, hz1⟩
  have HNEW : Hid (Calls Try.prog 8 #[.int .i64 1, .int .i64 60, .pointer (some ⟨w.heap.size, 0, none⟩)] w1 fun r w' => r = .returned (.tuple #[.pointer (some ⟨w.heap.size + 3, 0, none⟩), .int .i64 0]) ∧ Hpn w.heap.size w' (w.heap.size + 3) (w.heap.size + 1) (w.heap.size + 2) w.heap.size nd0 [] ∧ Below w.heap.size w w') := by
    refine (hnew_any he1 1 60 (of_decide_eq_true rfl) (of_decide_eq_true rfl) (of_decide_eq_true rfl) (of_decide_eq_true rfl)).mono ?_
    rintro r w' ⟨rfl, hc, hv, hk, hb, hz⟩
    rw [hz1] at hc hv hk hz
    refine ⟨by rw [hz1], ⟨[w.heap.size + 1], [w.heap.size + 2], [w.heap.size], { blk := hk, c := hc, v := hv, e := he1.tn (Tn.of_below hb []) (by simp), s17 := by simp [nd0], mH := by omega, mc := by simp, mv := by simp, me := by simp, Hc := by simp, Hv := by simp, He := by simp, cv := by simp, ce := by simp, ve := by simp, av := by simp }⟩, hb1.trans (hb.mono hb1.size)⟩
  clear he1 hb1 hz1
  go_wp2_with fail
  refine HNEW.out.mono ?_
  rintro e w2 ⟨rfl, hh2, hb2⟩
  have HK2 : Hid (Hpn w.heap.size w2 (w.heap.size + 3) (w.heap.size + 1) (w.heap.size + 2) w.heap.size nd0 [] ∧ Below w.heap.size w w2) := ⟨hh2, hb2⟩
  clear hh2 hb2 HNEW
  obtain ⟨H, hH⟩ : ∃ H, w.heap.size + 3 = H := ⟨_, rfl⟩
  rw [hH] at HK2
  go_wp2_with fail
  refine (hbegun_any w2).mono ?_
  rintro e w3 ⟨rfl, hb3⟩
  have HK3 : Hid (Hpn w.heap.size w3 H (w.heap.size + 1) (w.heap.size + 2) w.heap.size nd0 [] ∧ Below w.heap.size w w3) := ⟨HK2.out.1.below hb3, HK2.out.2.trans (hb3.mono HK2.out.2.size)⟩
  have HRES : Hid (Calls Try.prog 10 #[.pointer (some ⟨H, 0, none⟩), .int .i64 0, .int .i64 1, .int .i64 50] w3 fun e w' => e = .returned (.int .i64 0) ∧ AftH w.heap.size w3 w' H (w.heap.size + 1) (w.heap.size + 2) w.heap.size nd1 []) := reserve_ok HK3.out.1 nd0_fit 0 1 50 (of_decide_eq_true rfl) rfl (of_decide_eq_true rfl) (of_decide_eq_true rfl)
  clear hb3 HK2
  go_wp2_with fail
  refine HRES.out.mono ?_
  rintro e w4 ⟨rfl, ha4⟩
  have HK4 : Hid (Hpn w.heap.size w4 H (w.heap.size + 1) (w.heap.size + 2) w.heap.size nd1 [] ∧ Below w.heap.size w w4) := ⟨ha4.1, HK3.out.2.trans ha4.2.1⟩
  have HCL : Hid (Calls Try.prog 12 #[.pointer (some ⟨H, 0, none⟩), .int .i64 0, .string ⟨#[97]⟩] w4 fun e w' => e = .returned (.tuple #[.agg #[.int .i64 cs, .int .i64 cg], .int .i64 0]) ∧ AftH w.heap.size w4 w' H (w.heap.size + 1) (w.heap.size + 2) w.heap.size nd2 []) := by
    rw [HCS.out.1, HCS.out.2]
    exact cell_ok HK4.out.1 0 ⟨#[97]⟩ (of_decide_eq_true rfl) rfl ⟨of_decide_eq_true rfl, of_decide_eq_true rfl⟩ (of_decide_eq_true rfl) (of_decide_eq_true rfl) (of_decide_eq_true rfl) (of_decide_eq_true rfl) (of_decide_eq_true rfl)
  clear ha4 HK3 HRES
  go_wp2_with fail
  refine HCL.out.mono ?_
  rintro e w5 ⟨rfl, ha5⟩
  obtain ⟨B, hB⟩ : ∃ B, w5.heap.size = B := ⟨_, rfl⟩
  obtain ⟨w6, hw6, hk6, t56⟩ : ∃ w6, w5.alloc (.cells #[.int .i64 cs, .int .i64 cg] 36) = w6 ∧ Bk w6 B 36 #[.int .i64 cs, .int .i64 cg] ∧ Tn [] w5 w6 := ⟨_, rfl, by rw [← hB]; exact Bk.new _ _ _, (Tn.refl _ _).alloc _⟩
  have hb5 : Below w.heap.size w w5 := HK4.out.2.trans ha5.2.1
  have HS6 : Hid (Ns w.heap.size w5 w6 H (w.heap.size + 1) (w.heap.size + 2) w.heap.size B cs cg [] (.slice none 0 0) nd2 [] ∧ Below w.heap.size w w5) :=
    ⟨⟨(MidH.start ha5.1).new t56 (by simp [Value.ownBlock]; omega) (by simp [Value.ownBlock]; exact hk6.lt), hk6, Own.nil _ _ _⟩, hb5⟩
  clear ha5 hk6 t56 hb5 HCL HK4
  go_wp2_with fail
  go_loopw [64, 11, 12] (fun i t v wr => ∃ (j : Nat) (T : Int) (h : Hp) (L : List Ln) (F : List Vs), j ≤ 50 ∧ i = .int .i64 j ∧ t = .int .i64 T ∧ Hid (Ns w.heap.size w5 wr H (w.heap.size + 1) (w.heap.size + 2) w.heap.size B cs cg [] v h F.reverse ∧ Nd h j false L ∧ L.map Ln.ver = F ∧ Fs F j T)) (fun i _ _ _ => 50 - (intOf i).toNat)
  case atStart => exact ⟨0, 0, nd2, [], [], Nat.zero_le _, rfl, rfl, HS6.out.1, nd2_nd, rfl, ⟨rfl, by simp, List.Pairwise.nil, Int.le_refl _, by simp⟩⟩
  case round =>
    obtain ⟨j, T, h, L, F, hj, rfl, rfl, HK⟩ := hrel
    by_cases hlt : j < 50
    · have hli : (j : Int) < 50 := by omega
      have g0 : (0 : Int) ≤ (j : Int) := by omega
      have g1 : (j : Int) < (n0 : Int) := by omega
      have hbw : Below w.heap.size w wr := HS6.out.2.trans HK.out.1.mid.2.1
      obtain ⟨zb, zo, rfl, hcx⟩ := (HIN.out wr hbw).1.bys (by have := (HIN.out wr hbw).1.lenq; omega)
      have cx := hcx j (by have := (HIN.out wr hbw).1.lenq; omega)
      obtain ⟨y, hy⟩ : ∃ y, xs.getD j 0 = y := ⟨_, rfl⟩
      rw [hy] at cx
      have hyb : 0 ≤ y ∧ y < 256 := by
        have hl := (HIN.out wr hbw).1.lenq
        refine (HIN.out wr hbw).1.byte y ?_
        rw [← hy, List.getD_eq_getElem?_getD, List.getElem?_eq_getElem (by omega)]
        exact List.getElem_mem _
      clear hcx hy
      obtain ⟨T2, hT2⟩ : ∃ T2, T + (y % 4 + 1) = T2 := ⟨_, rfl⟩
      have hT4 : T < T2 ∧ T2 ≤ T + 4 := by omega
      have hTb := HK.out.2.2.2.t1
      have hTa := HK.out.2.2.2.t0
      have hwT : wrap64 (T + (y % 4 + 1)) = T2 := by rw [hT2]; unfold wrap64; omega
      clear hT2 hTb hTa
      obtain ⟨sv, hsv, hsz⟩ : ∃ sv, Utf8.encode (97 + (j : Int) % 26) = sv ∧ sv.size ≤ 256 := ⟨_, rfl, enc_size _⟩
      by_cases hdl : j < n1
      · have g2 : (j : Int) < (n1 : Int) := by omega
        obtain ⟨kb, ko, rfl, hck⟩ := (HIN.out wr hbw).2.1.bls (by have := (HIN.out wr hbw).2.1.lenq; omega)
        have ck := hck j (by have := (HIN.out wr hbw).2.1.lenq; omega)
        clear hck
        cases hb : ks.getD j false with
        | true =>
          rw [hb] at ck
          clear hb
          obtain ⟨w7, hw7, hk7, hz7⟩ : ∃ w7, wr.alloc (.cells #[.int .i64 T2, .string ⟨#[]⟩, .bool true] 34) = w7 ∧ Bk w7 wr.heap.size 34 #[.int .i64 T2, .string ⟨#[]⟩, .bool true] ∧ w7.heap.size = wr.heap.size + 1 := ⟨_, rfl, Bk.new _ _ _, by simp⟩
          have HS7 : Hid (Ns w.heap.size w5 w7 H (w.heap.size + 1) (w.heap.size + 2) w.heap.size B cs cg [wr.heap.size] u12 h F.reverse ∧ Bk w7 wr.heap.size 34 #[.int .i64 T2, .string ⟨#[]⟩, .bool true]) := ⟨HK.out.1.add (by rw [← hw7]; exact (Tn.refl _ _).alloc _) (Nat.le_refl _) (by omega), hk7⟩
          have a0 : w7.cell? ⟨B, 0, none⟩ = some (.int .i64 cs) := HS7.out.1.box.cell 0
          have a1 : w7.cell? ⟨B, 1, none⟩ = some (.int .i64 cg) := HS7.out.1.box.cell 1
          have b0 : w7.cell? ⟨wr.heap.size, 0, none⟩ = some (.int .i64 T2) := hk7.cell 0
          have b1 : w7.cell? ⟨wr.heap.size, 1, none⟩ = some (.string ⟨#[]⟩) := hk7.cell 1
          have b2 : w7.cell? ⟨wr.heap.size, 2, none⟩ = some (.bool true) := hk7.cell 2
          have HSZ : Hid ((⟨#[]⟩ : ByteArray).size ≤ 256) := (Nat.zero_le _)
          have HPU : Hid (Vr.putE F ⟨T2, ⟨#[]⟩, true⟩ = 0) := HK.out.2.2.2.putD T2 (by omega) hT4.1 hT4.2
          have HIS : Hid (Calls Try.prog 13 #[.pointer (some ⟨H, 0, none⟩), .int .i64 0, .agg #[.int .i64 cs, .int .i64 cg], .agg #[.int .i64 T2, .string ⟨#[]⟩, .bool true]] w7 fun e w' => e = .returned (.int .i64 0) ∧ Ns w.heap.size w5 w' H (w.heap.size + 1) (w.heap.size + 2) w.heap.size B cs cg [wr.heap.size] u12 (h.inst 0 (0 : Int).toNat ⟨T2, ⟨#[]⟩, true⟩) F.reverse ∧ Bk w' wr.heap.size 34 #[.int .i64 T2, .string ⟨#[]⟩, .bool true]) := by
            obtain ⟨h1, h2⟩ := HCS.out
            have K := HS7.out.1
            have k7 := HS7.out.2
            have N := HK.out.2.1
            have hgen := N.gens.gen (by omega)
            have hL : L.length = j := by rw [← HK.out.2.2.2.len, ← HK.out.2.2.1, List.length_map]
            have hpu := HPU.out
            rw [← HK.out.2.2.1] at hpu
            subst h1
            subst h2
            refine (install_ok K.mid.1 0 (by omega) (by rw [N.sh]) 0 1 N.cell.good ⟨T2, ⟨#[]⟩, true⟩ L N.cell.chn (by omega) N.cell.shut (by show (⟨#[]⟩ : ByteArray).size ≤ 9223372036854775807; have := HSZ.out; omega) hpu (by rw [N.sh]; show 0 < 50 - j; omega) (by rw [N.sh]; show 50 - j ≤ 65536; omega) (by rw [N.lv, N.sz]; omega) hgen.1 (by omega)).mono ?_
            rintro e w8 ⟨rfl, ha⟩
            exact ⟨rfl, K.call ha, ha.blk (by simp) k7⟩
          clear hk7 hz7
          go_wp2_with fail
          refine HIS.out.mono ?_
          rintro e w8 ⟨rfl, K8, k8⟩
          have HS8 : Hid (Ns w.heap.size w5 w8 H (w.heap.size + 1) (w.heap.size + 2) w.heap.size B cs cg [wr.heap.size] u12 (h.inst 0 (0 : Int).toNat ⟨T2, ⟨#[]⟩, true⟩) F.reverse) := K8
          have d0 : w8.cell? ⟨wr.heap.size, 0, none⟩ = some (.int .i64 T2) := k8.cell 0
          have d1 : w8.cell? ⟨wr.heap.size, 1, none⟩ = some (.string ⟨#[]⟩) := k8.cell 1
          have d2 : w8.cell? ⟨wr.heap.size, 2, none⟩ = some (.bool true) := k8.cell 2
          have HLN : Hid (F.reverse.length = j) := by unfold Hid; rw [List.length_reverse]; exact HK.out.2.2.2.len
          clear a0 a1 b0 b1 b2 K8 k8 HIS HS7
          go_wp2_with (at_builtin; refine app1L vknd Try.underlying46 vinfo rfl w8 rfl _ _ rfl (B + 1) u12 F.reverse rfl ⟨T2, ⟨#[]⟩, true⟩ _ rfl rfl _ rfl HS8.out.own (by rw [HLN.out]; unfold maxLen; omega) (by rw [HLN.out]; omega) HS8.out.lt.2.1 ?_; intro v9 w9 h1 h2 h3)
          have HS9 : Hid (Ns w.heap.size w5 w9 H (w.heap.size + 1) (w.heap.size + 2) w.heap.size B cs cg [] v9 (h.inst 0 (0 : Int).toNat ⟨T2, ⟨#[]⟩, true⟩) (⟨T2, ⟨#[]⟩, true⟩ :: F).reverse ∧ Nd (h.inst 0 (0 : Int).toNat ⟨T2, ⟨#[]⟩, true⟩) (j + 1) false (h.link (0 : Int).toNat ⟨T2, ⟨#[]⟩, true⟩ :: L) ∧ (h.link (0 : Int).toNat ⟨T2, ⟨#[]⟩, true⟩ :: L).map Ln.ver = ⟨T2, ⟨#[]⟩, true⟩ :: F ∧ Fs (⟨T2, ⟨#[]⟩, true⟩ :: F) (j + 1) T2) :=
            ⟨by rw [List.reverse_cons]; exact Ns.app HS8.out h1 h2 h3, HK.out.2.1.inst _ (by omega), by rw [List.map_cons, HK.out.2.2.1]; rfl, HK.out.2.2.2.cons _ hT4.1 hT4.2⟩
          clear h1 h2 h3
          go_wp2
          go_roundw
          case rel => exact ⟨j + 1, T2, _, _, _, by omega, by go_num, rfl, HS9⟩
          case measure => simp [intOf]; omega
        | false =>
          rw [hb] at ck
          clear hb
          obtain ⟨w7, hw7, hk7, hz7⟩ : ∃ w7, wr.alloc (.cells #[.int .i64 T2, .string sv, .bool false] 34) = w7 ∧ Bk w7 wr.heap.size 34 #[.int .i64 T2, .string sv, .bool false] ∧ w7.heap.size = wr.heap.size + 1 := ⟨_, rfl, Bk.new _ _ _, by simp⟩
          have HS7 : Hid (Ns w.heap.size w5 w7 H (w.heap.size + 1) (w.heap.size + 2) w.heap.size B cs cg [wr.heap.size] u12 h F.reverse ∧ Bk w7 wr.heap.size 34 #[.int .i64 T2, .string sv, .bool false]) := ⟨HK.out.1.add (by rw [← hw7]; exact (Tn.refl _ _).alloc _) (Nat.le_refl _) (by omega), hk7⟩
          have a0 : w7.cell? ⟨B, 0, none⟩ = some (.int .i64 cs) := HS7.out.1.box.cell 0
          have a1 : w7.cell? ⟨B, 1, none⟩ = some (.int .i64 cg) := HS7.out.1.box.cell 1
          have b0 : w7.cell? ⟨wr.heap.size, 0, none⟩ = some (.int .i64 T2) := hk7.cell 0
          have b1 : w7.cell? ⟨wr.heap.size, 1, none⟩ = some (.string sv) := hk7.cell 1
          have b2 : w7.cell? ⟨wr.heap.size, 2, none⟩ = some (.bool false) := hk7.cell 2
          have HSZ : Hid ((sv : ByteArray).size ≤ 256) := hsz
          have HPU : Hid (Vr.putE F ⟨T2, sv, false⟩ = 0) := HK.out.2.2.2.putK T2 _ (by omega) hT4.1 hT4.2 HSZ.out
          have HIS : Hid (Calls Try.prog 13 #[.pointer (some ⟨H, 0, none⟩), .int .i64 0, .agg #[.int .i64 cs, .int .i64 cg], .agg #[.int .i64 T2, .string sv, .bool false]] w7 fun e w' => e = .returned (.int .i64 0) ∧ Ns w.heap.size w5 w' H (w.heap.size + 1) (w.heap.size + 2) w.heap.size B cs cg [wr.heap.size] u12 (h.inst 0 (0 : Int).toNat ⟨T2, sv, false⟩) F.reverse ∧ Bk w' wr.heap.size 34 #[.int .i64 T2, .string sv, .bool false]) := by
            obtain ⟨h1, h2⟩ := HCS.out
            have K := HS7.out.1
            have k7 := HS7.out.2
            have N := HK.out.2.1
            have hgen := N.gens.gen (by omega)
            have hL : L.length = j := by rw [← HK.out.2.2.2.len, ← HK.out.2.2.1, List.length_map]
            have hpu := HPU.out
            rw [← HK.out.2.2.1] at hpu
            subst h1
            subst h2
            refine (install_ok K.mid.1 0 (by omega) (by rw [N.sh]) 0 1 N.cell.good ⟨T2, sv, false⟩ L N.cell.chn (by omega) N.cell.shut (by show (sv : ByteArray).size ≤ 9223372036854775807; have := HSZ.out; omega) hpu (by rw [N.sh]; show 0 < 50 - j; omega) (by rw [N.sh]; show 50 - j ≤ 65536; omega) (by rw [N.lv, N.sz]; omega) hgen.1 (by omega)).mono ?_
            rintro e w8 ⟨rfl, ha⟩
            exact ⟨rfl, K.call ha, ha.blk (by simp) k7⟩
          clear hk7 hz7
          go_wp2_with fail
          refine HIS.out.mono ?_
          rintro e w8 ⟨rfl, K8, k8⟩
          have HS8 : Hid (Ns w.heap.size w5 w8 H (w.heap.size + 1) (w.heap.size + 2) w.heap.size B cs cg [wr.heap.size] u12 (h.inst 0 (0 : Int).toNat ⟨T2, sv, false⟩) F.reverse) := K8
          have d0 : w8.cell? ⟨wr.heap.size, 0, none⟩ = some (.int .i64 T2) := k8.cell 0
          have d1 : w8.cell? ⟨wr.heap.size, 1, none⟩ = some (.string sv) := k8.cell 1
          have d2 : w8.cell? ⟨wr.heap.size, 2, none⟩ = some (.bool false) := k8.cell 2
          have HLN : Hid (F.reverse.length = j) := by unfold Hid; rw [List.length_reverse]; exact HK.out.2.2.2.len
          clear a0 a1 b0 b1 b2 K8 k8 HIS HS7
          go_wp2_with (at_builtin; refine app1L vknd Try.underlying46 vinfo rfl w8 rfl _ _ rfl (B + 1) u12 F.reverse rfl ⟨T2, sv, false⟩ _ rfl rfl _ rfl HS8.out.own (by rw [HLN.out]; unfold maxLen; omega) (by rw [HLN.out]; omega) HS8.out.lt.2.1 ?_; intro v9 w9 h1 h2 h3)
          have HS9 : Hid (Ns w.heap.size w5 w9 H (w.heap.size + 1) (w.heap.size + 2) w.heap.size B cs cg [] v9 (h.inst 0 (0 : Int).toNat ⟨T2, sv, false⟩) (⟨T2, sv, false⟩ :: F).reverse ∧ Nd (h.inst 0 (0 : Int).toNat ⟨T2, sv, false⟩) (j + 1) false (h.link (0 : Int).toNat ⟨T2, sv, false⟩ :: L) ∧ (h.link (0 : Int).toNat ⟨T2, sv, false⟩ :: L).map Ln.ver = ⟨T2, sv, false⟩ :: F ∧ Fs (⟨T2, sv, false⟩ :: F) (j + 1) T2) :=
            ⟨by rw [List.reverse_cons]; exact Ns.app HS8.out h1 h2 h3, HK.out.2.1.inst _ (by omega), by rw [List.map_cons, HK.out.2.2.1]; rfl, HK.out.2.2.2.cons _ hT4.1 hT4.2⟩
          clear h1 h2 h3
          go_wp2
          go_roundw
          case rel => exact ⟨j + 1, T2, _, _, _, by omega, by go_num, rfl, HS9⟩
          case measure => simp [intOf]; omega
      · have g2 : ¬ (j : Int) < (n1 : Int) := by omega
        obtain ⟨w7, hw7, hk7, hz7⟩ : ∃ w7, wr.alloc (.cells #[.int .i64 T2, .string sv, .bool false] 34) = w7 ∧ Bk w7 wr.heap.size 34 #[.int .i64 T2, .string sv, .bool false] ∧ w7.heap.size = wr.heap.size + 1 := ⟨_, rfl, Bk.new _ _ _, by simp⟩
        have HS7 : Hid (Ns w.heap.size w5 w7 H (w.heap.size + 1) (w.heap.size + 2) w.heap.size B cs cg [wr.heap.size] u12 h F.reverse ∧ Bk w7 wr.heap.size 34 #[.int .i64 T2, .string sv, .bool false]) := ⟨HK.out.1.add (by rw [← hw7]; exact (Tn.refl _ _).alloc _) (Nat.le_refl _) (by omega), hk7⟩
        have a0 : w7.cell? ⟨B, 0, none⟩ = some (.int .i64 cs) := HS7.out.1.box.cell 0
        have a1 : w7.cell? ⟨B, 1, none⟩ = some (.int .i64 cg) := HS7.out.1.box.cell 1
        have b0 : w7.cell? ⟨wr.heap.size, 0, none⟩ = some (.int .i64 T2) := hk7.cell 0
        have b1 : w7.cell? ⟨wr.heap.size, 1, none⟩ = some (.string sv) := hk7.cell 1
        have b2 : w7.cell? ⟨wr.heap.size, 2, none⟩ = some (.bool false) := hk7.cell 2
        have HSZ : Hid ((sv : ByteArray).size ≤ 256) := hsz
        have HPU : Hid (Vr.putE F ⟨T2, sv, false⟩ = 0) := HK.out.2.2.2.putK T2 _ (by omega) hT4.1 hT4.2 HSZ.out
        have HIS : Hid (Calls Try.prog 13 #[.pointer (some ⟨H, 0, none⟩), .int .i64 0, .agg #[.int .i64 cs, .int .i64 cg], .agg #[.int .i64 T2, .string sv, .bool false]] w7 fun e w' => e = .returned (.int .i64 0) ∧ Ns w.heap.size w5 w' H (w.heap.size + 1) (w.heap.size + 2) w.heap.size B cs cg [wr.heap.size] u12 (h.inst 0 (0 : Int).toNat ⟨T2, sv, false⟩) F.reverse ∧ Bk w' wr.heap.size 34 #[.int .i64 T2, .string sv, .bool false]) := by
          obtain ⟨h1, h2⟩ := HCS.out
          have K := HS7.out.1
          have k7 := HS7.out.2
          have N := HK.out.2.1
          have hgen := N.gens.gen (by omega)
          have hL : L.length = j := by rw [← HK.out.2.2.2.len, ← HK.out.2.2.1, List.length_map]
          have hpu := HPU.out
          rw [← HK.out.2.2.1] at hpu
          subst h1
          subst h2
          refine (install_ok K.mid.1 0 (by omega) (by rw [N.sh]) 0 1 N.cell.good ⟨T2, sv, false⟩ L N.cell.chn (by omega) N.cell.shut (by show (sv : ByteArray).size ≤ 9223372036854775807; have := HSZ.out; omega) hpu (by rw [N.sh]; show 0 < 50 - j; omega) (by rw [N.sh]; show 50 - j ≤ 65536; omega) (by rw [N.lv, N.sz]; omega) hgen.1 (by omega)).mono ?_
          rintro e w8 ⟨rfl, ha⟩
          exact ⟨rfl, K.call ha, ha.blk (by simp) k7⟩
        clear hk7 hz7
        go_wp2_with fail
        refine HIS.out.mono ?_
        rintro e w8 ⟨rfl, K8, k8⟩
        have HS8 : Hid (Ns w.heap.size w5 w8 H (w.heap.size + 1) (w.heap.size + 2) w.heap.size B cs cg [wr.heap.size] u12 (h.inst 0 (0 : Int).toNat ⟨T2, sv, false⟩) F.reverse) := K8
        have d0 : w8.cell? ⟨wr.heap.size, 0, none⟩ = some (.int .i64 T2) := k8.cell 0
        have d1 : w8.cell? ⟨wr.heap.size, 1, none⟩ = some (.string sv) := k8.cell 1
        have d2 : w8.cell? ⟨wr.heap.size, 2, none⟩ = some (.bool false) := k8.cell 2
        have HLN : Hid (F.reverse.length = j) := by unfold Hid; rw [List.length_reverse]; exact HK.out.2.2.2.len
        clear a0 a1 b0 b1 b2 K8 k8 HIS HS7
        go_wp2_with (at_builtin; refine app1L vknd Try.underlying46 vinfo rfl w8 rfl _ _ rfl (B + 1) u12 F.reverse rfl ⟨T2, sv, false⟩ _ rfl rfl _ rfl HS8.out.own (by rw [HLN.out]; unfold maxLen; omega) (by rw [HLN.out]; omega) HS8.out.lt.2.1 ?_; intro v9 w9 h1 h2 h3)
        have HS9 : Hid (Ns w.heap.size w5 w9 H (w.heap.size + 1) (w.heap.size + 2) w.heap.size B cs cg [] v9 (h.inst 0 (0 : Int).toNat ⟨T2, sv, false⟩) (⟨T2, sv, false⟩ :: F).reverse ∧ Nd (h.inst 0 (0 : Int).toNat ⟨T2, sv, false⟩) (j + 1) false (h.link (0 : Int).toNat ⟨T2, sv, false⟩ :: L) ∧ (h.link (0 : Int).toNat ⟨T2, sv, false⟩ :: L).map Ln.ver = ⟨T2, sv, false⟩ :: F ∧ Fs (⟨T2, sv, false⟩ :: F) (j + 1) T2) :=
          ⟨by rw [List.reverse_cons]; exact Ns.app HS8.out h1 h2 h3, HK.out.2.1.inst _ (by omega), by rw [List.map_cons, HK.out.2.2.1]; rfl, HK.out.2.2.2.cons _ hT4.1 hT4.2⟩
        clear h1 h2 h3
        go_wp2
        go_roundw
        case rel => exact ⟨j + 1, T2, _, _, _, by omega, by go_num, rfl, HS9⟩
        case measure => simp [intOf]; omega
    · have hli : ¬ (j : Int) < 50 := by omega
      have hjn : 50 = j := by omega
      subst hjn
      have HFS : Hid (Fs F 50 T) := HK.out.2.2.2
      have HST : Hid (Ns w.heap.size w5 wr H (w.heap.size + 1) (w.heap.size + 2) w.heap.size B cs cg [] u12 h F.reverse ∧ Nd h 50 false L ∧ Says 0 F (L.map Ln.ver)) := ⟨HK.out.1, HK.out.2.1, by rw [HK.out.2.2.1]; exact ⟨HK.out.2.2.2.falls, fun t _ => Sub.refl _⟩⟩
      have hT0 : 0 ≤ T ∧ T ≤ 200 := ⟨HFS.out.t0, by have := HFS.out.t1; omega⟩
      obtain ⟨T1, hT1⟩ : ∃ T1, T + 1 = T1 := ⟨_, rfl⟩
      have hwT : wrap64 T1 = T1 := by unfold wrap64; omega
      obtain ⟨pl, cl, rfl⟩ : ∃ p c, u12 = .slice p 50 c := by
        obtain ⟨p, c, hv, -⟩ := HST.out.1.own.els vknd
        rw [List.length_reverse, HFS.out.len] at hv
        exact ⟨p, c, hv⟩
      have HB5 : Hid (Below w.heap.size w w5) := HS6.out.2
      clear HK HS6
      go_wp2_with fail
      go_loopw [108, 16] (fun i mk wr => ∃ (q : Nat) (M : Int) (h : Hp) (b : Bool) (L : List Ln), q ≤ n2 ∧ i = .int .i64 q ∧ mk = .int .i64 M ∧ 0 ≤ M ∧ M ≤ 7 * (q : Int) ∧ Hid (Ns w.heap.size w5 wr H (w.heap.size + 1) (w.heap.size + 2) w.heap.size B cs cg [] (.slice pl 50 cl) h F.reverse ∧ Nd h 50 b L ∧ Says M F (L.map Ln.ver))) (fun i _ _ => n2 - (intOf i).toNat)
      case atStart => exact ⟨0, 0, h, false, L, Nat.zero_le _, rfl, rfl, Int.le_refl _, by simp, HST.out⟩
      case round =>
        clear HST
        obtain ⟨q, M, h, b, L, hq, rfl, rfl, hM0, hM7, HK⟩ := hrel
        have hbw : Below w.heap.size w wr := HB5.out.trans HK.out.1.mid.2.1
        by_cases hlt : q < n2
        · have hli2 : (q : Int) < (n2 : Int) := by omega
          have g3 : (0 : Int) ≤ (q : Int) := by omega
          obtain ⟨zb, zo, rfl, hcx⟩ := (HIN.out wr hbw).2.2.bys (by have := (HIN.out wr hbw).2.2.lenq; omega)
          have cx := hcx q (by have := (HIN.out wr hbw).2.2.lenq; omega)
          obtain ⟨y, hy⟩ : ∃ y, ms.getD q 0 = y := ⟨_, rfl⟩
          rw [hy] at cx
          have hyb : 0 ≤ y ∧ y < 256 := by
            have hl := (HIN.out wr hbw).2.2.lenq
            refine (HIN.out wr hbw).2.2.byte y ?_
            rw [← hy, List.getD_eq_getElem?_getD, List.getElem?_eq_getElem (by omega)]
            exact List.getElem_mem _
          clear hcx hy
          obtain ⟨M2, hM2⟩ : ∃ M2, M + y % 8 = M2 := ⟨_, rfl⟩
          have hM3 : M ≤ M2 ∧ M2 ≤ 7 * ((q + 1 : Nat) : Int) := by omega
          have HPR := prune_needs HK.out.1 HK.out.2.1 HK.out.2.2 hM3.1 HCS.out
          have HPN : Hid (Calls Try.prog 14 #[.pointer (some ⟨H, 0, none⟩), .agg #[.int .i64 cs, .int .i64 cg], .int .i64 M2] wr fun e w' => ∃ n c, e = .returned (.tuple #[.int .i64 n, .bool c, .int .i64 0]) ∧ ∃ h2 b2 L2, Ns w.heap.size w5 w' H (w.heap.size + 1) (w.heap.size + 2) w.heap.size B cs cg [] (.slice pl 50 cl) h2 F.reverse ∧ Nd h2 50 b2 L2 ∧ Says M2 F (L2.map Ln.ver)) := HPR
          have a0 : wr.cell? ⟨B, 0, none⟩ = some (.int .i64 cs) := HK.out.1.box.cell 0
          have a1 : wr.cell? ⟨B, 1, none⟩ = some (.int .i64 cg) := HK.out.1.box.cell 1
          clear HPR HK
          go_wp2_with fail
          refine HPN.out.mono ?_
          rintro e w7 ⟨rn, rc, rfl, h2, b2, L2, K7, N7, S7⟩
          have HK7 : Hid (Ns w.heap.size w5 w7 H (w.heap.size + 1) (w.heap.size + 2) w.heap.size B cs cg [] (.slice pl 50 cl) h2 F.reverse) := K7
          have HN7 : Hid (Nd h2 50 b2 L2 ∧ Says M2 F (L2.map Ln.ver)) := ⟨N7, S7⟩
          clear K7 N7 S7 a0 a1 HPN
          go_wp2_with fail
          go_loopw [22] (fun a wr => ∃ t : Int, a = .int .i64 t ∧ M2 ≤ t ∧ Hid (Ns w.heap.size w5 wr H (w.heap.size + 1) (w.heap.size + 2) w.heap.size B cs cg [] (.slice pl 50 cl) h2 F.reverse)) (fun a _ => (T1 + 1 - intOf a).toNat)
          case atStart => exact ⟨M2, rfl, Int.le_refl _, HK7.out⟩
          case round =>
            clear HK7
            obtain ⟨t, rfl, hMt, HK⟩ := hrel
            by_cases hle : t ≤ T1
            · obtain ⟨W0, hW0⟩ : ∃ W0, wr.heap.size = W0 := ⟨_, rfl⟩
              obtain ⟨w8, hw8, hk8, t8⟩ : ∃ w8, wr.alloc (.cells #[.int .i64 0, .string ⟨#[]⟩, .bool false] 34) = w8 ∧ Bk w8 W0 34 #[.int .i64 0, .string ⟨#[]⟩, .bool false] ∧ Tn [] wr w8 := ⟨_, rfl, by rw [← hW0]; exact Bk.new _ _ _, (Tn.refl _ _).alloc _⟩
              have HK8 : Hid (Ns w.heap.size w5 w8 H (w.heap.size + 1) (w.heap.size + 2) w.heap.size B cs cg [W0] (.slice pl 50 cl) h2 F.reverse ∧ Bk w8 W0 34 #[.int .i64 0, .string ⟨#[]⟩, .bool false]) := ⟨HK.out.add t8 (by omega) hk8.lt, hk8⟩
              have HW0 : Hid (W0 ≠ B ∧ ∀ g, (Value.slice pl 50 cl).ownBlock = some g → g ≠ W0) := by
                have hl := HK.out.lt
                refine ⟨by omega, fun g hg => ?_⟩
                have := hl.2.2 g hg
                omega
              clear hk8 t8 HK
              go_wp2_with fail
              go_loopw [136, 24] (fun i isv wr => ∃ (r : Nat) (o : Option Vs) (y : Vs) (ob : Bool), r ≤ 50 ∧ i = .int .i64 r ∧ isv = .bool ob ∧ Hid (o.isSome = ob ∧ o = wnt t (F.reverse.take r) ∧ o.getD Vs.zero = y) ∧ Hid (Ns w.heap.size w5 wr H (w.heap.size + 1) (w.heap.size + 2) w.heap.size B cs cg [W0] (.slice pl 50 cl) h2 F.reverse ∧ Bk wr W0 34 #[.int .i64 y.ts, .string y.val, .bool y.del])) (fun i _ _ => 50 - (intOf i).toNat)
              case atStart => exact ⟨0, none, Vs.zero, false, Nat.zero_le _, rfl, rfl, ⟨rfl, rfl, rfl⟩, HK8.out⟩
              case round =>
                clear HK8
                obtain ⟨r, o, y, ob, hr, rfl, rfl, HO, HK⟩ := hrel
                by_cases hrt : r < 50
                · have hli3 : (r : Int) < 50 := by omega
                  have g4 : (0 : Int) ≤ (r : Int) := by omega
                  obtain ⟨p, c, hv, he, -, -⟩ := HK.out.1.own.els vknd
                  simp only [Value.slice.injEq] at hv
                  obtain ⟨rfl, -, -⟩ := hv
                  obtain ⟨rb, ro, x, rfl, hgx, e0, e1, e2⟩ := Vrs.cells he (j := r) (by rw [List.length_reverse, HFS.out.len]; exact hrt)
                  have HSN : Hid (wnt t (F.reverse.take (r + 1)) = if x.ts ≤ t then some x else o) := by
                    unfold Hid
                    rw [List.take_add_one, hgx, HO.out.2.1]
                    exact wnt_snoc _ _ _
                  obtain ⟨x1, x2, x3⟩ := x
                  obtain ⟨y1, y2, y3⟩ := y
                  clear hgx he
                  obtain ⟨V0, hV0⟩ : ∃ V0, wr.heap.size = V0 := ⟨_, rfl⟩
                  obtain ⟨w9, hw9, hk9, t9⟩ : ∃ w9, wr.alloc (.cells #[.int .i64 x1, .string x2, .bool x3] 34) = w9 ∧ Bk w9 V0 34 #[.int .i64 x1, .string x2, .bool x3] ∧ Tn [] wr w9 := ⟨_, rfl, by rw [← hV0]; exact Bk.new _ _ _, (Tn.refl _ _).alloc _⟩
                  have HK9 : Hid (Ns w.heap.size w5 w9 H (w.heap.size + 1) (w.heap.size + 2) w.heap.size B cs cg [W0] (.slice (some ⟨rb, ro, none⟩) 50 cl) h2 F.reverse ∧ Bk w9 W0 34 #[.int .i64 y1, .string y2, .bool y3]) := ⟨HK.out.1.quiet t9, HK.out.2.tn t9 (by simp)⟩
                  have v0 : w9.cell? ⟨V0, 0, none⟩ = some (.int .i64 x1) := hk9.cell 0
                  have v1 : w9.cell? ⟨V0, 1, none⟩ = some (.string x2) := hk9.cell 1
                  have v2 : w9.cell? ⟨V0, 2, none⟩ = some (.bool x3) := hk9.cell 2
                  by_cases hx : x1 ≤ t
                  · have u0 : w9.cell? ⟨W0, 0, none⟩ = some (.int .i64 y1) := HK9.out.2.cell 0
                    have u1 : w9.cell? ⟨W0, 1, none⟩ = some (.string y2) := HK9.out.2.cell 1
                    have u2 : w9.cell? ⟨W0, 2, none⟩ = some (.bool y3) := HK9.out.2.cell 2
                    have f0 : w9.frozen? ⟨W0, 0, none⟩ = false := HK9.out.2.frozen 0
                    have f1 : w9.frozen? ⟨W0, 1, none⟩ = false := HK9.out.2.frozen 1
                    have f2 : w9.frozen? ⟨W0, 2, none⟩ = false := HK9.out.2.frozen 2
                    obtain ⟨w10, hw10, t10, hk10⟩ : ∃ w10, ((w9.setCell ⟨W0, 0, none⟩ (.int .i64 x1)).setCell ⟨W0, 1, none⟩ (.string x2)).setCell ⟨W0, 2, none⟩ (.bool x3) = w10 ∧ Tn [W0] w9 w10 ∧ Bk w10 W0 34 #[.int .i64 x1, .string x2, .bool x3] := ⟨_, rfl, (((Tn.refl _ _).setCell (.inl (by simp)) _).setCell (.inl (by simp)) _).setCell (.inl (by simp)) _, ((HK9.out.2.set 0 _).set 1 _).set 2 _⟩
                    have HK10 : Hid (Ns w.heap.size w5 w10 H (w.heap.size + 1) (w.heap.size + 2) w.heap.size B cs cg [W0] (.slice (some ⟨rb, ro, none⟩) 50 cl) h2 F.reverse ∧ Bk w10 W0 34 #[.int .i64 x1, .string x2, .bool x3]) := ⟨HK9.out.1.own1 t10 (by simp) (fun g hg => by rw [List.mem_singleton.1 hg]; exact ⟨fun e => HW0.out.2 _ e rfl, HW0.out.1⟩), hk10⟩
                    have HO2 : Hid ((some (⟨x1, x2, x3⟩ : Vs)).isSome = true ∧ some (⟨x1, x2, x3⟩ : Vs) = wnt t (F.reverse.take (r + 1)) ∧ (some (⟨x1, x2, x3⟩ : Vs)).getD Vs.zero = ⟨x1, x2, x3⟩) := ⟨rfl, by rw [HSN.out, if_pos hx], rfl⟩
                    clear hk9 t9 HK9 HK hk10 t10 HSN
                    go_wp2
                    go_roundw
                    case rel => exact ⟨r + 1, some ⟨x1, x2, x3⟩, ⟨x1, x2, x3⟩, true, by omega, by go_num, rfl, HO2, HK10⟩
                    case measure => simp [intOf]; omega
                  · have HO2 : Hid (o.isSome = ob ∧ o = wnt t (F.reverse.take (r + 1)) ∧ o.getD Vs.zero = ⟨y1, y2, y3⟩) := ⟨HO.out.1, by rw [HSN.out, if_neg hx], HO.out.2.2⟩
                    clear hk9 t9 HK HSN
                    go_wp2
                    go_roundw
                    case rel => exact ⟨r + 1, o, ⟨y1, y2, y3⟩, ob, by omega, by go_num, rfl, HO2, HK9⟩
                    case measure => simp [intOf]; omega
                · have hli3 : ¬ (r : Int) < 50 := by omega
                  have hrk : 50 = r := by omega
                  subst hrk
                  have HOE : Hid (o = Vr.at? F t) := by
                    unfold Hid
                    rw [HO.out.2.1, List.take_of_length_le (by rw [List.length_reverse, HFS.out.len]; exact Nat.le_refl _), wnt_at]
                  have HSB : Hid (Sub (Vr.at? (L2.map Ln.ver) t) o) := by
                    unfold Hid
                    rw [HOE.out]
                    exact HN7.out.2.2 t hMt
                  have HRD : Hid (Calls Try.prog 15 #[.pointer (some ⟨H, 0, none⟩), .agg #[.int .i64 cs, .int .i64 cg], .int .i64 t] wr fun e w' => e = .returned (.tuple #[((Vr.at? (L2.map Ln.ver) t).getD Vs.zero).v, .bool (Vr.at? (L2.map Ln.ver) t).isSome, .int .i64 0]) ∧ Below wr.heap.size wr w') := read_needs HK.out.1 HN7.out.1 HCS.out
                  have HKE : Hid (Ns w.heap.size w5 wr H (w.heap.size + 1) (w.heap.size + 2) w.heap.size B cs cg [] (.slice pl 50 cl) h2 F.reverse) := HK.out.1.drop
                  have z0 : wr.cell? ⟨B, 0, none⟩ = some (.int .i64 cs) := HK.out.1.box.cell 0
                  have z1 : wr.cell? ⟨B, 1, none⟩ = some (.int .i64 cg) := HK.out.1.box.cell 1
                  obtain ⟨y1, y2, y3⟩ := y
                  have HKB := (show Hid (Bk wr W0 34 #[.int .i64 y1, .string y2, .bool y3]) from HK.out.2)
                  clear HK HOE
                  rcases HSB.out with he | ⟨he, vv, he2, hvd⟩
                  · rw [he] at HRD
                    cases o with
                    | none =>
                      obtain rfl : false = ob := HO.out.1
                      clear HSB HO
                      have HRE : Hid (Calls Try.prog 15 #[.pointer (some ⟨H, 0, none⟩), .agg #[.int .i64 cs, .int .i64 cg], .int .i64 t] wr fun e w' => e = .returned (.tuple #[.agg #[.int .i64 0, .string ⟨#[]⟩, .bool zd], .bool false, .int .i64 0]) ∧ Below wr.heap.size wr w') := by
                        rw [HZD.out]; exact HRD
                      clear HRD
                      go_wp2_with fail
                      refine HRE.out.mono ?_
                      rintro e w11 ⟨rfl, hb11⟩
                      obtain ⟨V1, hV1⟩ : ∃ V1, w11.heap.size = V1 := ⟨_, rfl⟩
                      obtain ⟨w12, hw12, hk12, t12⟩ : ∃ w12, w11.alloc (.cells #[.int .i64 0, .string ⟨#[]⟩, .bool zd] 34) = w12 ∧ Bk w12 V1 34 #[.int .i64 0, .string ⟨#[]⟩, .bool zd] ∧ Tn [] w11 w12 := ⟨_, rfl, by rw [← hV1]; exact Bk.new _ _ _, (Tn.refl _ _).alloc _⟩
                      have HK12 : Hid (Ns w.heap.size w5 w12 H (w.heap.size + 1) (w.heap.size + 2) w.heap.size B cs cg [] (.slice pl 50 cl) h2 F.reverse) := (HKE.out.below hb11).quiet t12
                      have hkw := (HKB.out.tn (Tn.of_below hb11 []) (by simp)).tn t12 (by simp)
                      have w0' : w12.cell? ⟨W0, 0, none⟩ = some (.int .i64 y1) := hkw.cell 0
                      have w1' : w12.cell? ⟨W0, 1, none⟩ = some (.string y2) := hkw.cell 1
                      have w2' : w12.cell? ⟨W0, 2, none⟩ = some (.bool y3) := hkw.cell 2
                      have v0 : w12.cell? ⟨V1, 0, none⟩ = some (.int .i64 0) := hk12.cell 0
                      have v1 : w12.cell? ⟨V1, 1, none⟩ = some (.string ⟨#[]⟩) := hk12.cell 1
                      have v2 : w12.cell? ⟨V1, 2, none⟩ = some (.bool zd) := hk12.cell 2
                      clear hk12 t12 hkw hb11 HKE HKB z0 z1 HRE
                      go_wp2
                      go_roundw
                      case rel => exact ⟨t + 1, by go_num, by omega, HK12⟩
                      case measure => simp [intOf]; omega
                    | some x =>
                      obtain rfl : true = ob := HO.out.1
                      obtain rfl : x = ⟨y1, y2, y3⟩ := HO.out.2.2
                      clear HSB HO
                      have HRE : Hid (Calls Try.prog 15 #[.pointer (some ⟨H, 0, none⟩), .agg #[.int .i64 cs, .int .i64 cg], .int .i64 t] wr fun e w' => e = .returned (.tuple #[.agg #[.int .i64 y1, .string y2, .bool y3], .bool true, .int .i64 0]) ∧ Below wr.heap.size wr w') := by
                        exact HRD
                      clear HRD
                      go_wp2_with fail
                      refine HRE.out.mono ?_
                      rintro e w11 ⟨rfl, hb11⟩
                      obtain ⟨V1, hV1⟩ : ∃ V1, w11.heap.size = V1 := ⟨_, rfl⟩
                      obtain ⟨w12, hw12, hk12, t12⟩ : ∃ w12, w11.alloc (.cells #[.int .i64 y1, .string y2, .bool y3] 34) = w12 ∧ Bk w12 V1 34 #[.int .i64 y1, .string y2, .bool y3] ∧ Tn [] w11 w12 := ⟨_, rfl, by rw [← hV1]; exact Bk.new _ _ _, (Tn.refl _ _).alloc _⟩
                      have HK12 : Hid (Ns w.heap.size w5 w12 H (w.heap.size + 1) (w.heap.size + 2) w.heap.size B cs cg [] (.slice pl 50 cl) h2 F.reverse) := (HKE.out.below hb11).quiet t12
                      have hkw := (HKB.out.tn (Tn.of_below hb11 []) (by simp)).tn t12 (by simp)
                      have w0' : w12.cell? ⟨W0, 0, none⟩ = some (.int .i64 y1) := hkw.cell 0
                      have w1' : w12.cell? ⟨W0, 1, none⟩ = some (.string y2) := hkw.cell 1
                      have w2' : w12.cell? ⟨W0, 2, none⟩ = some (.bool y3) := hkw.cell 2
                      have v0 : w12.cell? ⟨V1, 0, none⟩ = some (.int .i64 y1) := hk12.cell 0
                      have v1 : w12.cell? ⟨V1, 1, none⟩ = some (.string y2) := hk12.cell 1
                      have v2 : w12.cell? ⟨V1, 2, none⟩ = some (.bool y3) := hk12.cell 2
                      clear hk12 t12 hkw hb11 HKE HKB z0 z1 HRE
                      go_wp2
                      go_roundw
                      case rel => exact ⟨t + 1, by go_num, by omega, HK12⟩
                      case measure => simp [intOf]; omega
                  · rw [he] at HRD
                    subst he2
                    obtain rfl : true = ob := HO.out.1
                    obtain rfl : vv = ⟨y1, y2, y3⟩ := HO.out.2.2
                    obtain rfl : y3 = true := hvd
                    clear HSB HO
                    have HRE : Hid (Calls Try.prog 15 #[.pointer (some ⟨H, 0, none⟩), .agg #[.int .i64 cs, .int .i64 cg], .int .i64 t] wr fun e w' => e = .returned (.tuple #[.agg #[.int .i64 0, .string ⟨#[]⟩, .bool zd], .bool false, .int .i64 0]) ∧ Below wr.heap.size wr w') := by
                      rw [HZD.out]; exact HRD
                    clear HRD
                    go_wp2_with fail
                    refine HRE.out.mono ?_
                    rintro e w11 ⟨rfl, hb11⟩
                    obtain ⟨V1, hV1⟩ : ∃ V1, w11.heap.size = V1 := ⟨_, rfl⟩
                    obtain ⟨w12, hw12, hk12, t12⟩ : ∃ w12, w11.alloc (.cells #[.int .i64 0, .string ⟨#[]⟩, .bool zd] 34) = w12 ∧ Bk w12 V1 34 #[.int .i64 0, .string ⟨#[]⟩, .bool zd] ∧ Tn [] w11 w12 := ⟨_, rfl, by rw [← hV1]; exact Bk.new _ _ _, (Tn.refl _ _).alloc _⟩
                    have HK12 : Hid (Ns w.heap.size w5 w12 H (w.heap.size + 1) (w.heap.size + 2) w.heap.size B cs cg [] (.slice pl 50 cl) h2 F.reverse) := (HKE.out.below hb11).quiet t12
                    have hkw := (HKB.out.tn (Tn.of_below hb11 []) (by simp)).tn t12 (by simp)
                    have w0' : w12.cell? ⟨W0, 0, none⟩ = some (.int .i64 y1) := hkw.cell 0
                    have w1' : w12.cell? ⟨W0, 1, none⟩ = some (.string y2) := hkw.cell 1
                    have w2' : w12.cell? ⟨W0, 2, none⟩ = some (.bool true) := hkw.cell 2
                    have v0 : w12.cell? ⟨V1, 0, none⟩ = some (.int .i64 0) := hk12.cell 0
                    have v1 : w12.cell? ⟨V1, 1, none⟩ = some (.string ⟨#[]⟩) := hk12.cell 1
                    have v2 : w12.cell? ⟨V1, 2, none⟩ = some (.bool zd) := hk12.cell 2
                    clear hk12 t12 hkw hb11 HKE HKB z0 z1 HRE
                    go_wp2
                    go_roundw
                    case rel => exact ⟨t + 1, by go_num, by omega, HK12⟩
                    case measure => simp [intOf]; omega
            · have HKF := (show Hid (Ns w.heap.size w5 wr H (w.heap.size + 1) (w.heap.size + 2) w.heap.size B cs cg [] (.slice pl 50 cl) h2 F.reverse ∧ Nd h2 50 b2 L2 ∧ Says M2 F (L2.map Ln.ver)) from ⟨HK.out, HN7.out⟩)
              clear HK HN7
              go_wp2
              go_roundw
              case rel => exact ⟨q + 1, M2, h2, b2, L2, by omega, by go_num, rfl, by omega, hM3.2, HKF⟩
              case measure => simp [intOf]; omega
        · have hli2 : ¬ (q : Int) < (n2 : Int) := by omega
          have HSL : Hid (Calls Try.prog 16 #[.pointer (some ⟨H, 0, none⟩)] wr fun e w' => e = .returned (.int .i64 0) ∧ Below wr.heap.size wr w') := hstale_zero HK.out.1.mid.1 HK.out.2.1.st.1 HK.out.2.1.st.2
          have HBW : Hid (Below w.heap.size w wr) := hbw
          clear HK hbw
          go_wp2_with fail
          refine HSL.out.mono ?_
          rintro e w7 ⟨rfl, hb7⟩
          have HB7 : Hid (Below w.heap.size w w7) := HBW.out.trans (hb7.mono HBW.out.size)
          clear hb7 HSL
          go_wp2
          go_ret
          exact ⟨rfl, HB7.out⟩

theorem walk_heapNeeds (p0 : Option Addr) (n0 c0 : Nat) (xs : List Int) (p1 : Option Addr) (n1 c1 : Nat) (ks : List Bool) (p2 : Option Addr) (n2 c2 : Nat) (ms : List Int) (w : World) (i0 : InB 140737488351232 w p0 n0 c0 xs) (i1 : InK w p1 n1 c1 ks) (i2 : InB 140737488351232 w p2 n2 c2 ms) :
    Calls Try.prog 4 #[.slice p0 n0 c0, .slice p1 n1 c1, .slice p2 n2 c2] w fun e w' => e = .returned (.bool true) ∧ Below w.heap.size w w' := by
  by_cases hm : 50 < (n0 : Int)
  · exact walk_needsB p0 n0 c0 xs p1 n1 c1 ks p2 n2 c2 ms w hm i0 i1 i2
  · exact walk_needsA p0 n0 c0 xs p1 n1 c1 ks p2 n2 c2 ms w hm i0 i1 i2


set_option maxRecDepth 100000 in
set_option maxHeartbeats 2000000 in
theorem lifted_heapNeeds (os : Os) (started : os.Started) (H : Type) (enc : TypeId × Value → H) :
    ReturnsInHanded {} Try.checked os 4 .any (Rows.heapNeedsSpec.pre6 enc Try.prog Try.f4 Rows.heapNeedsRow.domain false) (Rows.heapNeedsSpec.post enc Try.prog Try.f4 false true false false) := by
  refine returnsInHanded_of_change_sized (C := Try.checked) own started (by kernel_rfl) Try.func4
    (ChangeSpec.witness6 (enc := enc) (C := Try.checked) false ⟨#[], #[.slice none 0 0, .slice none 0 0, .slice none 0 0], []⟩ 8 (by kernel_rfl) (by kernel_rfl) (by kernel_rfl) (by kernel_rfl)) ?_
  intro W base args ds gs before hval0 hW _ hsz0 _
  have hsz : (DataW.weightsEach Try.prog (Try.f4.params.toList ++ Rows.heapNeedsSpec.plain.varTypes Try.prog) (ds ++ gs)).all (· ≤ reachBytes) = true := hsz0
  clear hsz0
  have hval : ∀ (j : Nat) t v, Try.f4.params[j]? = some t → args[j]? = some v → Value.okWide Try.prog W .any base t v := hval0
  have hW' := hW
  obtain ⟨p, q, hA0, hV, rfl, hfz, hnd⟩ := hW
  have hA : DataW.TrodAll enc Try.prog W 0 (fun _ => true) true Try.f4.params.toList args.toList ds p := hA0
  rw [Try.params4] at hA hval hsz
  obtain ⟨v0, vs0, d0, ds0, p0, q0, hargs, rfl, rfl, h0, r0⟩ := trodAll_cons hA
  obtain ⟨v1, vs1, d1, ds1, p1, q1, rfl, rfl, rfl, h1, r1⟩ := trodAll_cons r0
  obtain ⟨v2, vs2, d2, ds2, p2, q2, rfl, rfl, rfl, h2, r2⟩ := trodAll_cons r1
  obtain ⟨rfl, rfl, rfl⟩ := trodAll_nil r2
  obtain rfl : args = #[v0, v1, v2] := by cases args; simp_all
  obtain ⟨rfl, rfl⟩ := trodVars_none hV
  obtain ⟨a0, len0, cap0, rfl⟩ := okWide_slice Try.underlying44 (hval 0 44 v0 rfl rfl)
  have k0 := h0
  have lt0 : ∀ x ∈ p0, x.block < W.heap.size := by obtain ⟨m, hm⟩ := k0; exact DataW.trod_lt m _ _ _ hm
  obtain ⟨z0, w0⟩ : ∃ zs, InB 140737488351232 W a0 len0 cap0 zs := by
    refine in_bytes h0 ?_
    intro elems spare hd
    have := sized_slice hsz (j := 0) (t := 44) (e := 5) rfl (by rw [hd]; rfl) Try.underlying44
    rw [bytes_u8] at this
    simp only [reachBytes] at this
    omega
  obtain ⟨a1, len1, cap1, rfl⟩ := okWide_slice Try.underlying45 (hval 1 45 v1 rfl rfl)
  have k1 := h1
  have lt1 : ∀ x ∈ p1, x.block < W.heap.size := by obtain ⟨m, hm⟩ := k1; exact DataW.trod_lt m _ _ _ hm
  obtain ⟨z1, w1⟩ : ∃ ks, InK W a1 len1 cap1 ks := by
    refine in_bools h1 ?_
    intro elems spare hd
    have := sized_slice hsz (j := 1) (t := 45) (e := 4) rfl (by rw [hd]; rfl) Try.underlying45
    rw [bytes_bool] at this
    simp only [reachBytes] at this
    omega
  obtain ⟨a2, len2, cap2, rfl⟩ := okWide_slice Try.underlying44 (hval 2 44 v2 rfl rfl)
  have k2 := h2
  have lt2 : ∀ x ∈ p2, x.block < W.heap.size := by obtain ⟨m, hm⟩ := k2; exact DataW.trod_lt m _ _ _ hm
  obtain ⟨z2, w2⟩ : ∃ zs, InB 140737488351232 W a2 len2 cap2 zs := by
    refine in_bytes h2 ?_
    intro elems spare hd
    have := sized_slice hsz (j := 2) (t := 44) (e := 5) rfl (by rw [hd]; rfl) Try.underlying44
    rw [bytes_u8] at this
    simp only [reachBytes] at this
    omega
  clear hA0 hval0
  refine (walk_heapNeeds a0 len0 cap0 z0 a1 len1 cap1 z1 a2 len2 cap2 z2 W w0 w1 w2).mono fun e W' ⟨he, bel⟩ => ?_
  subst he
  exact ⟨_, rfl, _, _, _, [], _, [], hW', trodAll_mk1 (shut_bool Try.underlying4 _), (trodAll_cons_mk (Below.trod laidOut (by kernel_rfl) (of_decide_eq_true (by kernel_rfl)) k0 bel lt0) (trodAll_cons_mk (Below.trod laidOut (by kernel_rfl) (of_decide_eq_true (by kernel_rfl)) k1 bel lt1) (trodAll_cons_mk (Below.trod laidOut (by kernel_rfl) (of_decide_eq_true (by kernel_rfl)) k2 bel lt2) trodAll_mk0))), rfl, bel.frame _, fun h => by cases h⟩

/-- The statement. -/
theorem heapNeeds_holds : Rows.HeapNeedsSaid :=
  OpenClaim.holds_of_wide 4 Try.f4 rfl rfl rfl rfl rfl rfl rfl ⟨rfl, rfl, rfl, rfl, rfl⟩ rfl rfl rfl rfl rfl (by kernel_rfl) Try.func4 (by kernel_rfl)
    (of_decide_eq_true (by kernel_rfl)) (by unfold Func.isWrapper; first | (rw [if_pos (by decide +kernel)]; kernel_rfl) | (rw [if_neg (by decide +kernel)]; exact ⟨rfl, rfl⟩))
    (fun os started H enc _ => lifted_heapNeeds os started H enc)
#print axioms heapNeeds_holds
end Go.Proofs.Ytbdcdiihaecheaa
