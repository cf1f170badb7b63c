/- A disk's clone. -/
import Derived.Test.YtpggnejifpcnmaaDkClone
import Derived.Test.YtpggnejifpcnmaaDkPower
namespace Go.Proofs.Ytpggnejifpcnmaa
open Go.RowKit Go.Maps
set_option linter.unusedVariables false
set_option maxRecDepth 100000

set_option maxHeartbeats 2000000 in
theorem clone_any {w : World} {B : Nat} {bs : List Nat} {d : Dk} (h : Dsk w B bs d) (hkl : d.keep.length ≤ 140737488355328) :
    Calls Try.prog 34 #[.pointer (some ⟨B, 0, none⟩)] w fun e w' => ∃ C bs' cc, e = .returned (.pointer (some ⟨C, 0, none⟩)) ∧ Dsk w' C bs' { d with cs := cc } ∧ (∀ b ∈ bs', w.heap.size ≤ b) ∧ Below w.heap.size w w' := by
  have hma := made_any h
  obtain ⟨S, M, pd, cd, kb, rfl, h⟩ := h
  have HD : Hid (IsDk w B S M pd cd kb d) := h
  obtain ⟨c0, c1, c2, c3, c4, c5⟩ := h.cells
  have hBlt : B < w.heap.size := h.blk.lt
  clear h
  go_enter Try.func34, Try.ntmps34
  go_wp2_with fail
  refine hma.mono ?_
  rintro e w1 ⟨rfl, rfl⟩
  clear hma
  go_wp2_with fail
  have HK2 : Hid (Bk (w1.alloc (Obj.cells #[.slice (some ⟨S, 0, none⟩) d.n d.cs, .map (some M), .int .i64 d.calls, .bool d.down, .int .i64 d.left, .slice pd d.keep.length cd] 62)) w1.heap.size 62 #[.slice (some ⟨S, 0, none⟩) d.n d.cs, .map (some M), .int .i64 d.calls, .bool d.down, .int .i64 d.left, .slice pd d.keep.length cd]) := Bk.new _ _ _
  have HD2 : Hid (IsDk (w1.alloc (Obj.cells #[.slice (some ⟨S, 0, none⟩) d.n d.cs, .map (some M), .int .i64 d.calls, .bool d.down, .int .i64 d.left, .slice pd d.keep.length cd] 62)) B S M pd cd kb d) := HD.out.tn (T := []) ((Tn.refl _ _).alloc _) (by simp)
  have HB2 : Hid (Below w1.heap.size w1 (w1.alloc (Obj.cells #[.slice (some ⟨S, 0, none⟩) d.n d.cs, .map (some M), .int .i64 d.calls, .bool d.down, .int .i64 d.left, .slice pd d.keep.length cd] 62))) := (Below.refl _ _).alloc (Nat.le_refl _) _
  have hsz2 : w1.heap.size < (w1.alloc (Obj.cells #[.slice (some ⟨S, 0, none⟩) d.n d.cs, .map (some M), .int .i64 d.calls, .bool d.down, .int .i64 d.left, .slice pd d.keep.length cd] 62)).heap.size := by simp
  have HLT : Hid (∀ b ∈ B :: S :: M :: kb, b < w1.heap.size) := HD.out.lt
  generalize (w1.alloc (Obj.cells #[.slice (some ⟨S, 0, none⟩) d.n d.cs, .map (some M), .int .i64 d.calls, .bool d.down, .int .i64 d.left, .slice pd d.keep.length cd] 62)) = w2 at HK2 HD2 HB2 hsz2 ⊢
  obtain ⟨C, hC⟩ : ∃ C, w1.heap.size = C := ⟨_, rfl⟩
  rw [hC] at HK2 hsz2 ⊢
  have hBC : B ≠ C := by omega
  clear c0 c1 c2 c3 c4 c5
  have HNC : Hid (∀ b ∈ B :: S :: M :: kb, b ∉ [C]) := fun b hb => by have := HLT.out b hb; simp; omega
  obtain ⟨cur, hs, hz⟩ := HD2.out.sure
  refine (cloneS_any S d.cs d.n d.sure cur w2 hs hz HD2.out.n1 HD2.out.n2).mono ?_
  rintro e w3 ⟨S', cc, cur', rfl, hs', hz', hge, hb3⟩
  have HZ : Hid (SureAt cur' d.n d.sure) := hz'
  have HS3 : Hid (Bk w3 S' 79 cur') := hs'
  have HK3 : Hid (Bk w3 C 62 #[.slice (some ⟨S, 0, none⟩) d.n d.cs, .map (some M), .int .i64 d.calls, .bool d.down, .int .i64 d.left, .slice pd d.keep.length cd]) := HK2.out.tn (Tn.of_below hb3 []) (by simp)
  have HD3 : Hid (IsDk w3 B S M pd cd kb d) := HD2.out.tn (T := []) (Tn.of_below hb3 []) (by simp)
  have HB3 : Hid (Below w1.heap.size w1 w3) := HB2.out.trans (hb3.mono (by omega))
  have hSC : S' ∉ [C] := by simp; omega
  have hSC' : C < S' := by omega
  clear hs hz hs' hz' hge hb3 HK2 HD2 HB2 hsz2
  have q0 : w3.cell? ⟨C, 0, none⟩ = some (.slice (some ⟨S, 0, none⟩) d.n d.cs) := HK3.out.cell 0
  have f0 := HK3.out.frozen 0
  obtain ⟨-, c1, -, -, -, -⟩ := HD3.out.cells
  go_wp2_with fail
  have t4 : Tn [C] w3 (w3.setCell ⟨C, 0, none⟩ (.slice (some ⟨S', 0, none⟩) d.n cc)) := (Tn.refl _ _).setCell (by simp) _
  have HK4 : Hid (Bk (w3.setCell ⟨C, 0, none⟩ (.slice (some ⟨S', 0, none⟩) d.n cc)) C 62 #[.slice (some ⟨S', 0, none⟩) d.n cc, .map (some M), .int .i64 d.calls, .bool d.down, .int .i64 d.left, .slice pd d.keep.length cd]) := HK3.out.set 0 _
  have HD4 : Hid (IsDk (w3.setCell ⟨C, 0, none⟩ (.slice (some ⟨S', 0, none⟩) d.n cc)) B S M pd cd kb d) := HD3.out.tn t4 HNC.out
  have HS4 : Hid (Bk (w3.setCell ⟨C, 0, none⟩ (.slice (some ⟨S', 0, none⟩) d.n cc)) S' 79 cur') := HS3.out.tn t4 hSC
  have HB4 : Hid (Below w1.heap.size w1 (w3.setCell ⟨C, 0, none⟩ (.slice (some ⟨S', 0, none⟩) d.n cc))) := HB3.out.setCell (by simp; omega) _
  clear t4 HK3 HD3 HS3 HB3 q0 f0 c1
  generalize w3.setCell ⟨C, 0, none⟩ (.slice (some ⟨S', 0, none⟩) d.n cc) = w4 at HK4 HD4 HS4 HB4 ⊢
  have hS4 : S' < w4.heap.size := HS4.out.lt
  refine Calls.mono (show Calls Try.prog 55 #[.map (some M)] w4 _ from AnyW.maps_Clone_owns Try.dkClone 3 secElem M d.n (datum d.dirty d.n) w4 HD4.out.map) ?_
  rintro e w5 ⟨rfl, hm5, -, hb5⟩
  obtain ⟨M', hM'⟩ : ∃ M', w4.heap.size = M' := ⟨_, rfl⟩
  rw [hM'] at hm5 ⊢
  have HM5 : Hid (w5.ownsMap Try.prog 3 secElem M' d.n (datum d.dirty d.n)) := hm5
  have HK5 : Hid (Bk w5 C 62 #[.slice (some ⟨S', 0, none⟩) d.n cc, .map (some M), .int .i64 d.calls, .bool d.down, .int .i64 d.left, .slice pd d.keep.length cd]) := HK4.out.tn (Tn.of_below hb5 []) (by simp)
  have HD5 : Hid (IsDk w5 B S M pd cd kb d) := HD4.out.tn (T := []) (Tn.of_below hb5 []) (by simp)
  have HS5 : Hid (Bk w5 S' 79 cur') := HS4.out.tn (Tn.of_below hb5 []) (by simp)
  have HB5 : Hid (Below w1.heap.size w1 w5) := HB4.out.trans (hb5.mono (by omega))
  have hMC : M' ∉ [C] := by simp; omega
  have hMS : S' < M' := by omega
  clear hm5 hb5 HK4 HD4 HS4 HB4 hS4
  have q1 : w5.cell? ⟨C, 1, none⟩ = some (.map (some M)) := HK5.out.cell 1
  have f1 := HK5.out.frozen 1
  obtain ⟨-, -, -, -, -, c5⟩ := HD5.out.cells
  go_wp2_with fail
  have t6 : Tn [C] w5 (w5.setCell ⟨C, 1, none⟩ (.map (some M'))) := (Tn.refl _ _).setCell (by simp) _
  have HK6 : Hid (Bk (w5.setCell ⟨C, 1, none⟩ (.map (some M'))) C 62 #[.slice (some ⟨S', 0, none⟩) d.n cc, .map (some M'), .int .i64 d.calls, .bool d.down, .int .i64 d.left, .slice pd d.keep.length cd]) := HK5.out.set 1 _
  have HD6 : Hid (IsDk (w5.setCell ⟨C, 1, none⟩ (.map (some M'))) B S M pd cd kb d) := HD5.out.tn t6 HNC.out
  have HS6 : Hid (Bk (w5.setCell ⟨C, 1, none⟩ (.map (some M'))) S' 79 cur') := HS5.out.tn t6 hSC
  have HM6 : Hid ((w5.setCell ⟨C, 1, none⟩ (.map (some M'))).ownsMap Try.prog 3 secElem M' d.n (datum d.dirty d.n)) := owns_tn HM5.out t6 hMC
  have HB6 : Hid (Below w1.heap.size w1 (w5.setCell ⟨C, 1, none⟩ (.map (some M')))) := HB5.out.setCell (by simp; omega) _
  clear t6 HK5 HD5 HS5 HM5 HB5 q1 f1 c5
  generalize w5.setCell ⟨C, 1, none⟩ (.map (some M')) = w6 at HK6 HD6 HS6 HM6 HB6 ⊢
  have hM6 : M' < w6.heap.size := HM6.out.lt
  refine (cloneB_any pd cd d.keep.length d.keep w6 rfl HD6.out.keep hkl HD6.out.knil).mono ?_
  rintro e w7 ⟨p', c', rfl, hb', hge, hnil, hcap, hb7⟩
  have HBL : Hid (Bls w7 p' d.keep) := hb'
  have HGE : Hid (∀ ad, p' = some ad → w6.heap.size ≤ ad.block ∧ ad.block < w7.heap.size) := hge
  have HNI : Hid (p' = none → d.keep.length = 0 ∧ c' = 0) := hnil
  have HK7 : Hid (Bk w7 C 62 #[.slice (some ⟨S', 0, none⟩) d.n cc, .map (some M'), .int .i64 d.calls, .bool d.down, .int .i64 d.left, .slice pd d.keep.length cd]) := HK6.out.tn (Tn.of_below hb7 []) (by simp)
  have HD7 : Hid (IsDk w7 B S M pd cd kb d) := HD6.out.tn (T := []) (Tn.of_below hb7 []) (by simp)
  have HS7 : Hid (Bk w7 S' 79 cur') := HS6.out.tn (Tn.of_below hb7 []) (by simp)
  have HM7 : Hid (w7.ownsMap Try.prog 3 secElem M' d.n (datum d.dirty d.n)) := owns_tn HM6.out (Tn.of_below hb7 []) (by simp)
  have HB7 : Hid (Below w1.heap.size w1 w7) := HB6.out.trans (hb7.mono (by omega))
  clear hb' hge hnil hb7 HK6 HD6 HS6 HM6 HB6
  have q5 : w7.cell? ⟨C, 5, none⟩ = some (.slice pd d.keep.length cd) := HK7.out.cell 5
  have f5 := HK7.out.frozen 5
  go_wp2
  go_ret
  have t8 : Tn [C] w7 (w7.setCell ⟨C, 5, none⟩ (.slice p' d.keep.length c')) := (Tn.refl _ _).setCell (by simp) _
  have hsz : (w7.setCell ⟨C, 5, none⟩ (.slice p' d.keep.length c')).heap.size = w7.heap.size := by simp [World.setCell]
  have hkk : ∃ kk : List Nat, (∀ ad, p' = some ad → 0 < d.keep.length → ad.block ∈ kk) ∧ ∀ b ∈ kk, M' < b ∧ b < (w7.setCell ⟨C, 5, none⟩ (.slice p' d.keep.length c')).heap.size := by
    rw [hsz]
    cases p' with
    | none => exact ⟨[], (fun ad ha => by cases ha), by simp⟩
    | some ad =>
      refine ⟨[ad.block], (fun ad' ha _ => by cases ha; simp), fun b hb => ?_⟩
      simp at hb
      subst hb
      have := HGE.out ad rfl
      omega
  obtain ⟨kk, hkb, hgb⟩ := hkk
  refine ⟨C, C :: S' :: M' :: kk, cc, rfl, ⟨S', M', p', c', kk, rfl, ?_⟩, ?_, HB7.out.setCell (by simp; omega) _⟩
  · have hd := HD7.out
    exact {
      blk := HK7.out.set 5 _
      sure := ⟨cur', HS7.out.tn t8 hSC, HZ.out⟩
      map := owns_tn HM7.out t8 hMC
      keep := HBL.out.tn t8 (fun ad ha hl => by have := HGE.out ad ha; simp; omega)
      kbs := hkb
      kne := ⟨fun hh => by have := hgb _ hh; omega, fun hh => by have := hgb _ hh; omega, fun hh => by have := hgb _ hh; omega⟩
      klt := fun b hb => (hgb b hb).2
      n1 := hd.n1
      n2 := hd.n2
      secS := hd.secS
      secD := hd.secD
      lowD := hd.lowD
      left := hd.left
      knil := HNI.out
      kcap := hcap }
  · intro b hb
    simp only [List.mem_cons] at hb
    rcases hb with rfl | rfl | rfl | hb
    · omega
    · omega
    · omega
    · have := hgb b hb
      omega

end Go.Proofs.Ytpggnejifpcnmaa
