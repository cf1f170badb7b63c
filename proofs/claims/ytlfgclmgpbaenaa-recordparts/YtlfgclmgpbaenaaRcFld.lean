/- The fields of a record, gathered. -/
import Derived.Test.YtlfgclmgpbaenaaStepApp
import Derived.Test.YtlfgclmgpbaenaaLaid
import Derived.Test.YtlfgclmgpbaenaaPutText
import Derived.Test.YtlfgclmgpbaenaaPutFlag
import Derived.Deep.RegionLaw
namespace Go.Proofs.Ytlfgclmgpbaenaa
open Go.RowKit
set_option linter.unusedVariables false
set_option maxRecDepth 100000

/-- What was gathered: n bytes. -/
def Fl (w : World) (F : Nat) (bs : List Nat) (n : Nat) (xs : List Int) : Prop := ∃ v, bs = F :: v.ownBlock.toList ∧ Bk w F 108 #[v] ∧ Own w 0 v n xs ∧ v.ownBlock ≠ some F

/-- It has turned to this. -/
def FlT (w w' : World) (F : Nat) (bs : List Nat) (n : Nat) (xs : List Int) : Prop := ∃ bs', Fl w' F bs' n xs ∧ Tn bs w w' ∧ ∀ b ∈ bs', b ∈ bs ∨ w.heap.size ≤ b

theorem Own.keptN {w w' : World} {base n : Nat} {v : Value} {xs : List Int} (h : Own w base v n xs) (hb : ∀ k, v.ownBlock = some k → w'.heap[k]? = w.heap[k]?) : Own w' base v n xs := by
  refine ⟨h.1, ?_⟩
  rcases h.2 with hn | ⟨g, cap, cur, hv, hbb, hg, rest⟩
  · exact .inl hn
  · refine .inr ⟨g, cap, cur, hv, hbb, ?_, rest⟩
    rw [hb g (by rw [hv]; rfl)]
    exact hg

theorem Fl.below {w w' : World} {F : Nat} {bs : List Nat} {n : Nat} {xs : List Int} (h : Fl w F bs n xs) (hb : Below w.heap.size w w') : Fl w' F bs n xs := by
  obtain ⟨v, rfl, h1, h2, h3⟩ := h
  exact ⟨v, rfl, h1.below hb h1.lt, h2.below hb (Nat.le_refl _), h3⟩

theorem Fl.lt {w : World} {F : Nat} {bs : List Nat} {n : Nat} {xs : List Int} (h : Fl w F bs n xs) : ∀ b ∈ bs, b < w.heap.size := by
  obtain ⟨v, rfl, h1, h2, h3⟩ := h
  intro b hb
  rcases List.mem_cons.1 hb with rfl | hb
  · exact h1.lt
  · exact h2.hi b (by simpa using hb)

theorem Own.some {w : World} {base n : Nat} {v : Value} {xs : List Int} (h : Own w base v n xs) (hn : 0 < n) : ∃ g c, v = .slice (some ⟨g, 0, none⟩) n c := by
  rcases h.form with ⟨_, h0, _⟩ | ⟨g, c, hv, _⟩
  · omega
  · exact ⟨g, c, hv⟩

theorem Bk.grown {w w' : World} {b : Nat} {t : TypeId} {cs : Array Value} {row : Option Nat} (h : Bk w b t cs) (hg : w.grownBy w' row) (hne : row ≠ some b) : Bk w' b t cs :=
  (hg.block b h.lt (fun e => hne e.symm)).trans h

theorem fl_done {w w2 w3 : World} {F m : Nat} {v : Value} {zs : List Int} {g3 k3 : Nat} (hk : Bk w F 108 #[v]) (hne : v.ownBlock ≠ some F) (hb2 : Below w.heap.size w w2) (hg3 : w2.grownBy w3 v.ownBlock)
    (ho3 : Own w3 0 (.slice (some ⟨g3, 0, none⟩) m k3) m zs) (hv3 : (Value.slice (some ⟨g3, 0, none⟩) m k3).ownBlock = v.ownBlock ∨ (Value.slice (some ⟨g3, 0, none⟩) m k3).ownBlock = some w2.heap.size) (hk3 : Bk w3 F 108 #[v]) :
    FlT w (w3.setCell ⟨F, 0, none⟩ (.slice (some ⟨g3, 0, none⟩) m k3)) F (F :: v.ownBlock.toList) m zs := by
  have hs2 := hb2.size
  have hF := hk.lt
  have hgF : g3 ≠ F := by
    rcases hv3 with h | h
    · intro e
      subst e
      exact hne h.symm
    · simp only [Value.ownBlock, Option.some.injEq] at h
      omega
  refine ⟨[F, g3], ⟨.slice (some ⟨g3, 0, none⟩) m k3, rfl, hk3.set 0 _, ho3.keptN fun k hkk => ?_, ?_⟩, ?_, ?_⟩
  · simp only [Value.ownBlock, Option.some.injEq] at hkk
    subst hkk
    exact Below.heap_setCell w3 ⟨F, 0, none⟩ _ g3 hgF
  · simp only [Value.ownBlock, ne_eq, Option.some.injEq]
    exact hgF
  · refine (((Tn.of_below hb2 _).grown hg3 fun k hkk => .inl ?_).setCell (.inl (by simp)) _)
    simp [hkk]
  · intro b hb
    simp only [List.mem_cons, List.not_mem_nil, or_false] at hb
    rcases hb with rfl | rfl
    · simp
    · rcases hv3 with h | h
      · left
        rw [← h]
        simp [Value.ownBlock]
      · right
        simp only [Value.ownBlock, Option.some.injEq] at h
        omega

set_option maxHeartbeats 1000000 in
theorem fnum_any {w : World} {F : Nat} {bs : List Nat} {n : Nat} {xs : List Int} (h : Fl w F bs n xs) (x : Int) (h0 : -9223372036854775808 ≤ x) (h1 : x ≤ 9223372036854775807) (hn : n ≤ 1099511627776) :
    Calls Try.prog 113 #[.pointer (some ⟨F, 0, none⟩), .int .i64 x] w fun e w' => e = .returned (.tuple #[]) ∧ FlT w w' F bs (n + Cd.width x) (xs ++ Cd.enc x) := by
  obtain ⟨v, rfl, hk, ho, hne⟩ := h
  have c0 : w.drew.cell? ⟨F, 0, none⟩ = some v := hk.cell 0
  have HK : Hid (Bk w.drew F 108 #[v]) := hk
  have HO : Hid (Own w.drew 0 v n xs) := ho
  have HNE : Hid (v.ownBlock ≠ some F) := hne
  have HLT : Hid (F < w.drew.heap.size) := hk.lt
  have HW : Hid (1 ≤ Cd.width x ∧ Cd.width x ≤ 9) := by have := Cd.width_pos x; unfold Hid; omega
  clear hk ho hne
  go_enter Try.func113, Try.ntmps113
  go_wp2_with fail
  go_region_law (first
    | (go_simp; go_at_call 115; refine (putInt_any none 0 0 [] x _ rfl (Bys.nil _ _) (by omega) (fun _ => ⟨rfl, rfl⟩) h0 h1).mono ?_; rintro e w2 ⟨rfl, HO2, hb2⟩; have HK2 := HK.out.below hb2 HLT.out; have c2 := HK2.cell 0)
    | (refine step_app8 rfl _ _ rfl 0 v n xs (by go_simp) (HO.out.below hb2 (Nat.le_refl _)) ⟨w.heap.size, 0, none⟩ (0 + Cd.width x) (0 + Cd.width x) (Cd.enc x) (by go_simp) HO2.at (by simp [Cd.enc_length]) (by have := HW.out; omega) (Nat.zero_le _) ?_; intro v3 w3 HO3 hg3 hv3; obtain ⟨g3, k3, rfl⟩ := HO3.some (by have := HW.out; omega); have HK3 := HK2.grown hg3 HNE.out; have c3 := HK3.cell 0; have f3 := HK3.frozen 0))
  all_goals go_end0
  all_goals
    refine ⟨rfl, ?_⟩
    simp only [Nat.zero_add] at HO3 hv3
    obtain ⟨bs', a1, a2, a3⟩ := fl_done HK.out HNE.out hb2 hg3 HO3 hv3 HK3
    exact ⟨bs', a1, ((Tn.refl _ w).drew).trans a2 (fun y hy => .inl hy), a3⟩

set_option maxHeartbeats 1000000 in
theorem fflag_any {w : World} {F : Nat} {bs : List Nat} {n : Nat} {xs : List Int} (h : Fl w F bs n xs) (x : Bool) (hn : n ≤ 1099511627776) :
    Calls Try.prog 117 #[.pointer (some ⟨F, 0, none⟩), .bool x] w fun e w' => e = .returned (.tuple #[]) ∧ FlT w w' F bs (n + 1) (xs ++ [if x then 109 else 108]) := by
  obtain ⟨v, rfl, hk, ho, hne⟩ := h
  have c0 : w.drew.cell? ⟨F, 0, none⟩ = some v := hk.cell 0
  have HK : Hid (Bk w.drew F 108 #[v]) := hk
  have HO : Hid (Own w.drew 0 v n xs) := ho
  have HNE : Hid (v.ownBlock ≠ some F) := hne
  have HLT : Hid (F < w.drew.heap.size) := hk.lt
  have HW : Hid (1 ≤ 9) := by unfold Hid; omega
  clear hk ho hne
  go_enter Try.func117, Try.ntmps117
  go_wp2_with fail
  go_region_law (first
    | (go_simp; go_at_call 121; refine (putFlag_any none 0 0 [] x _ rfl (Bys.nil _ _) (by omega) (fun _ => ⟨rfl, rfl⟩)).mono ?_; rintro e w2 ⟨rfl, HO2, hb2⟩; have HK2 := HK.out.below hb2 HLT.out; have c2 := HK2.cell 0)
    | (refine step_app8 rfl _ _ rfl 0 v n xs (by go_simp) (HO.out.below hb2 (Nat.le_refl _)) ⟨w.heap.size, 0, none⟩ (0 + 1) (0 + 1) ([if x then 109 else 108]) (by go_simp) HO2.at rfl (by have := HW.out; omega) (Nat.zero_le _) ?_; intro v3 w3 HO3 hg3 hv3; obtain ⟨g3, k3, rfl⟩ := HO3.some (by have := HW.out; omega); have HK3 := HK2.grown hg3 HNE.out; have c3 := HK3.cell 0; have f3 := HK3.frozen 0))
  all_goals go_end0
  all_goals
    refine ⟨rfl, ?_⟩
    simp only [Nat.zero_add] at HO3 hv3
    obtain ⟨bs', a1, a2, a3⟩ := fl_done HK.out HNE.out hb2 hg3 HO3 hv3 HK3
    exact ⟨bs', a1, ((Tn.refl _ w).drew).trans a2 (fun y hy => .inl hy), a3⟩

set_option maxHeartbeats 1000000 in
theorem ftext_any {w : World} {F : Nat} {bs : List Nat} {n : Nat} {xs : List Int} (h : Fl w F bs n xs) (x : ByteArray) (hx : x.size ≤ 1099511627776) (hn : n ≤ 1099511627776) :
    Calls Try.prog 116 #[.pointer (some ⟨F, 0, none⟩), .string x] w fun e w' => e = .returned (.tuple #[]) ∧ FlT w w' F bs (n + (Cd.width x.size + x.size)) (xs ++ (Cd.enc x.size ++ strB x)) := by
  obtain ⟨v, rfl, hk, ho, hne⟩ := h
  have c0 : w.drew.cell? ⟨F, 0, none⟩ = some v := hk.cell 0
  have HK : Hid (Bk w.drew F 108 #[v]) := hk
  have HO : Hid (Own w.drew 0 v n xs) := ho
  have HNE : Hid (v.ownBlock ≠ some F) := hne
  have HLT : Hid (F < w.drew.heap.size) := hk.lt
  have HW : Hid (1 ≤ Cd.width x.size ∧ Cd.width x.size ≤ 9) := by have := Cd.width_pos x.size; unfold Hid; omega
  clear hk ho hne
  go_enter Try.func116, Try.ntmps116
  go_wp2_with fail
  go_region_law (first
    | (go_simp; go_at_call 120; refine (putText_any none 0 0 [] x _ rfl (Bys.nil _ _) (by omega) (fun _ => ⟨rfl, rfl⟩)).mono ?_; rintro e w2 ⟨v2, rfl, HO2, hb2⟩; obtain ⟨g2, k2, rfl⟩ := HO2.some (by have := HW.out; omega); have HK2 := HK.out.below hb2 HLT.out; have c2 := HK2.cell 0)
    | (refine step_app8 rfl _ _ rfl 0 v n xs (by go_simp) (HO.out.below hb2 (Nat.le_refl _)) ⟨g2, 0, none⟩ (0 + Cd.width x.size + x.size) k2 ((Cd.enc x.size ++ strB x)) (by go_simp) HO2.at (by simp [Cd.enc_length, strB_length]) (by have := HW.out; omega) (Nat.zero_le _) ?_; intro v3 w3 HO3 hg3 hv3; obtain ⟨g3, k3, rfl⟩ := HO3.some (by have := HW.out; omega); have HK3 := HK2.grown hg3 HNE.out; have c3 := HK3.cell 0; have f3 := HK3.frozen 0))
  all_goals go_end0
  all_goals
    refine ⟨rfl, ?_⟩
    simp only [Nat.zero_add] at HO3 hv3
    obtain ⟨bs', a1, a2, a3⟩ := fl_done HK.out HNE.out hb2 hg3 HO3 hv3 HK3
    exact ⟨bs', a1, ((Tn.refl _ w).drew).trans a2 (fun y hy => .inl hy), a3⟩

end Go.Proofs.Ytlfgclmgpbaenaa
