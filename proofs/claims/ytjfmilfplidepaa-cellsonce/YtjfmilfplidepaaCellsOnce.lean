/- Of several swaps of a cell of texts from one value to others the first one is done, and no other. -/
import Derived.Test.YtjfmilfplidepaaCeBg
import Derived.Test.YtjfmilfplidepaaCeCS
import Derived.Test.YtjfmilfplidepaaCeOpen
namespace Go.Proofs.Ytjfmilfplidepaa
open Go.ChangeShapes Go.WideShapes Go.ChangeAt Go.RowKit
open Go.ChangeMaps (open_string shut_string)
set_option linter.unusedVariables false
set_option maxRecDepth 100000

/-- What the cell has behind so many swaps. -/
def Onc (first : ByteArray) (l : List ByteArray) (j : Nat) (d : Nat) (last : ByteArray) : Prop :=
  (d = 0 ∧ last = first ∧ ∀ i x, i < j → l[i]? = some x → x = first) ∨ (d = 1 ∧ last ≠ first)

theorem Onc.same {first : ByteArray} {l : List ByteArray} {j d : Nat} {last x : ByteArray} (h : Onc first l j d last) (hx : l[j]? = some x) (e : x = first) : Onc first l (j + 1) d last := by
  rcases h with ⟨h1, h2, h3⟩ | h
  · refine .inl ⟨h1, h2, fun i y hi hy => ?_⟩
    by_cases hij : i < j
    · exact h3 i y hij hy
    · obtain rfl : i = j := by omega
      rw [hx] at hy
      cases hy
      exact e
  · exact .inr h

set_option maxHeartbeats 8000000 in
theorem walk_cellsOnce (first : ByteArray) (a : Option Addr) (len cap : Nat) (l : List ByteArray) (w : World) (_hs : first.size ≤ 140737488351232) (hin : InT w a len cap l) :
    Calls Try.prog 5 #[.string first, .slice a len cap] w fun e w' => e = .returned (.bool true) ∧ Below w.heap.size w w' := by
  have hroom : len ≤ 8796093021952 := by have := hin.le; have := hin.room; omega
  have HI : Hid (InT w a len cap l) := hin
  clear hin
  go_enter Try.func5, Try.ntmps5
  go_wp2_with fail
  refine (newCell_anyS first w).mono ?_
  rintro e w1 ⟨rfl, hw1⟩
  have H1 : Hid (CeS w1 w.heap.size first 0 ∧ Below w.heap.size w w1) := by
    rw [hw1]
    exact ⟨Bk.new w _ _, (Below.refl _ w).alloc (Nat.le_refl _) _⟩
  clear hw1
  go_wp2_with fail
  refine (begun_any w1).mono ?_
  rintro e w2 ⟨rfl, hb2⟩
  have H2 : Hid (CeS w2 w.heap.size first 0 ∧ Below w.heap.size w w2) := ⟨H1.out.1.below hb2 H1.out.1.lt, H1.out.2.trans (hb2.mono H1.out.2.size)⟩
  clear hb2 H1
  go_wp2_with fail
  go_loopw [6, 7, 25] (fun dv lv iv wr => ∃ (j d : Nat) (last : ByteArray), j ≤ len ∧ dv = .int .i64 d ∧ lv = .string last ∧ iv = .int .i64 j ∧ d ≤ 1 ∧ Hid (Onc first l j d last ∧ CeS wr w.heap.size last d ∧ Below w.heap.size w wr)) (fun _ _ iv _ => len - (intOf iv).toNat)
  case atStart => exact ⟨0, 0, first, by omega, rfl, rfl, rfl, by omega, .inl ⟨rfl, rfl, by simp⟩, H2.out⟩
  case round =>
    obtain ⟨j, d, last, hj, rfl, rfl, rfl, hd1, HB⟩ := hrel
    by_cases hlt : j < len
    · have hli : (j : Int) < (len : Int) := by omega
      obtain ⟨b, o, x, rfl, hx, _, hc⟩ := (HI.out.up HB.out.2.2).at hlt
      have cx : wr.cell? ⟨b, o + j * 1, none⟩ = some (.string x) := hc 0 _ rfl
      rw [Nat.mul_one] at cx
      have HX : Hid (l[j]? = some x) := hx
      clear hc hx
      have HQ : Hid _ := eqlC x first
      by_cases hxf : x = first
      · subst hxf
        have hq : (x.toList == x.toList) = true := by simp
        have HO : Hid (Onc x l (j + 1) d last) := HB.out.1.same HX.out rfl
        go_wp2
        go_roundw
        case rel => exact ⟨j + 1, d, last, by omega, rfl, rfl, by go_num, hd1, HO.out, HB.out.2⟩
        case measure => simp [intOf]; omega
      · have hq : (x.toList == first.toList) = false := by rw [HQ.out]; simp [hxf]
        have HXF : Hid (¬ x = first) := hxf
        clear hxf HQ
        rcases HB.out.1 with ⟨h1, h2, h3⟩ | ⟨h1, h2⟩
        · subst h1 h2
          clear h3
          go_wp2_with fail
          refine (cswap_hitS HB.out.2.1 x).mono ?_
          rintro e w3 ⟨rfl, hk, ht⟩
          have HE : Hid (Onc last l (j + 1) 1 x ∧ CeS w3 w.heap.size x ((1 : Nat) : Int) ∧ Below w.heap.size w w3) := ⟨.inr ⟨rfl, HXF.out⟩, by simpa [wrap64] using hk, HB.out.2.2.trans (ht.below HB.out.2.2.size (by simp))⟩
          clear hk ht
          go_wp2
          go_roundw
          case rel => exact ⟨j + 1, 1, x, by omega, by go_num, rfl, by go_num, by omega, HE⟩
          case measure => simp [intOf]; omega
        · subst h1
          have HO : Hid (Onc first l (j + 1) 1 last) := .inr ⟨rfl, h2⟩
          have HNE : Hid (¬ last = first) := h2
          clear h2
          go_wp2_with fail
          refine (cswap_missS HB.out.2.1 first x HNE.out).mono ?_
          rintro e w3 ⟨rfl, hk, ht⟩
          have HE : Hid (Onc first l (j + 1) 1 last ∧ CeS w3 w.heap.size last ((1 : Nat) : Int) ∧ Below w.heap.size w w3) := ⟨HO.out, hk, HB.out.2.2.trans (ht.mono HB.out.2.2.size)⟩
          clear hk ht
          go_wp2
          go_roundw
          case rel => exact ⟨j + 1, 1, last, by omega, rfl, rfl, by go_num, by omega, HE⟩
          case measure => simp [intOf]; omega
    · have hli : ¬ (j : Int) < (len : Int) := by omega
      have hjl : j = len := by omega
      subst hjl
      go_wp2_with fail
      refine (cload_anyS HB.out.2.1).mono ?_
      rintro e w3 ⟨rfl, k, rfl⟩
      have HE : Hid (Below w.heap.size w (wr.drewN k)) := below_drewC HB.out.2.2 k
      have hg : ¬ (1 : Int) < (d : Int) := by omega
      have hq : (last.toList == last.toList) = true := by simp
      go_wp2_with fail
      go_loopw [59] (fun iv wq => ∃ i : Nat, i ≤ j ∧ iv = .int .i64 i ∧ wq = wr.drewN k) (fun iv _ => j - (intOf iv).toNat)
      case atStart => exact ⟨0, by omega, rfl, rfl⟩
      case round =>
        rename_i wq hrel
        obtain ⟨i, hi, rfl, rfl⟩ := hrel
        by_cases hlt : i < j
        · have hli : (i : Int) < (j : Int) := by omega
          obtain ⟨b, o, x, rfl, hx, _, hc⟩ := (HI.out.up HE.out).at hlt
          have cx : (wr.drewN k).cell? ⟨b, o + i * 1, none⟩ = some (.string x) := hc 0 _ rfl
          rw [Nat.mul_one] at cx
          have HX : Hid (l[i]? = some x) := hx
          clear hc hx
          by_cases hxf : x = first
          · subst hxf
            have hq : (x.toList == x.toList) = true := by simp
            go_wp2
            go_roundw
            case rel => exact ⟨i + 1, by omega, by go_num, by trivial⟩
            case measure => simp [intOf]; omega
          · have hq : (x.toList == first.toList) = false := by rw [eqlC]; simp [hxf]
            have hd : d = 1 := by
              rcases HB.out.1 with ⟨h1, h2, h3⟩ | ⟨h1, h2⟩
              · exact absurd (h3 i x hlt HX.out) hxf
              · exact h1
            subst hd
            clear hxf
            go_wp2
            go_roundw
            case rel => exact ⟨i + 1, by omega, by go_num, by trivial⟩
            case measure => simp [intOf]; omega
        · have hli : ¬ (i : Int) < (j : Int) := by omega
          go_wp2
          go_ret
          exact ⟨rfl, HE.out⟩

set_option maxRecDepth 100000 in
set_option maxHeartbeats 2000000 in
theorem lifted_cellsOnce (os : Os) (started : os.Started) (H : Type) (enc : TypeId × Value → H) :
    ReturnsInHanded {} Try.checked os 5 .any (Rows.cellsOnceSpec.pre6 enc Try.prog Try.f5 Rows.cellsOnceRow.domain false) (Rows.cellsOnceSpec.post enc Try.prog Try.f5 false true false false) := by
  refine returnsInHanded_of_change_sized (C := Try.checked) own started (by kernel_rfl) Try.func5
    (ChangeSpec.witness6 (enc := enc) (C := Try.checked) false ⟨#[], #[.string .empty, .slice none 0 0], []⟩ 8 (by kernel_rfl) (by kernel_rfl) (by kernel_rfl) (by kernel_rfl)) ?_
  intro W base args ds gs before hval0 hW _ hsz0 _
  have hsz : (DataW.weightsEach Try.prog (Try.f5.params.toList ++ Rows.cellsOnceSpec.plain.varTypes Try.prog) (ds ++ gs)).all (· ≤ reachBytes) = true := hsz0
  clear hsz0
  have hval : ∀ (j : Nat) t v, Try.f5.params[j]? = some t → args[j]? = some v → Value.okWide Try.prog W .any base t v := hval0
  have hW' := hW
  obtain ⟨p, q, hA0, hV, rfl, hfz, hnd⟩ := hW
  have hA : DataW.TrodAll enc Try.prog W 0 (fun _ => true) true Try.f5.params.toList args.toList ds p := hA0
  rw [Try.params5] at hA hval hsz
  obtain ⟨v0, vs0, d0, ds0, p0, q0, hargs, rfl, rfl, h0, r0⟩ := trodAll_cons hA
  obtain ⟨v1, vs1, d1, ds1, p1, q1, rfl, rfl, rfl, h1, r1⟩ := trodAll_cons r0
  obtain ⟨rfl, rfl, rfl⟩ := trodAll_nil r1
  obtain rfl : args = #[v0, v1] := by cases args; simp_all
  obtain ⟨rfl, rfl⟩ := trodVars_none hV
  obtain ⟨a0, rfl, rfl, rfl, w0⟩ := open_string Try.underlying9 (hval 0 9 v0 rfl rfl) h0
  have s0 : a0.size ≤ 140737488351232 := by
    have := sized_string hsz (j := 0) (t := 9) rfl rfl
    have e : a0.data.toList.length = a0.size := by rw [Array.length_toList]; rfl
    simp only [reachBytes] at this
    omega
  obtain ⟨a1, len1, cap1, rfl⟩ := okWide_slice Try.underlying49 (hval 1 49 v1 rfl rfl)
  have k1 := h1
  have lt1 : ∀ x ∈ p1, x.block < W.heap.size := by obtain ⟨m, hm⟩ := k1; exact DataW.trod_lt m _ _ _ hm
  obtain ⟨z1, w1⟩ : ∃ l, InT W a1 len1 cap1 l := by
    refine in_texts h1 fun n hn => ?_
    have := of_decide_eq_true (List.all_eq_true.1 hsz _ (DataW.weights_mem_each (j := 1) (t := 49) rfl rfl n hn))
    simp only [reachBytes] at this
    omega
  clear hA0 hval0
  refine (walk_cellsOnce a0 a1 len1 cap1 z1 W s0 w1).mono fun e W' ⟨he, bel⟩ => ?_
  subst he
  exact ⟨_, rfl, _, _, _, [], _, [], hW', trodAll_mk1 (shut_bool Try.underlying4 _), (trodAll_cons_mk (shut_string Try.underlying9 w0) (trodAll_cons_mk (Below.trod laidOut (by kernel_rfl) (of_decide_eq_true (by kernel_rfl)) k1 bel lt1) trodAll_mk0)), rfl, bel.frame _, fun h => by cases h⟩

/-- The statement. -/
theorem cellsOnce_holds : Rows.CellsOnceSaid :=
  OpenClaim.holds_of_wide 5 Try.f5 rfl rfl rfl rfl rfl rfl rfl ⟨rfl, rfl, rfl, rfl, rfl⟩ rfl rfl rfl rfl rfl (by kernel_rfl) Try.func5 (by kernel_rfl)
    (of_decide_eq_true (by kernel_rfl)) (by unfold Func.isWrapper; first | (rw [if_pos (by decide +kernel)]; kernel_rfl) | (rw [if_neg (by decide +kernel)]; exact ⟨rfl, rfl⟩))
    (fun os started H enc _ => lifted_cellsOnce os started H enc)
#print axioms cellsOnce_holds
end Go.Proofs.Ytjfmilfplidepaa
