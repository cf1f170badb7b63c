/- KeysOwn, where what comes in is of bulk at most 1048576: what is done with a union's ranges, or with those of what is left, does not reach what came in. -/
import Derived.Test.YtbfaamdfdnoegaaKyLive
import Derived.Test.YtbfaamdfdnoegaaKyPu
import Derived.Test.YtbfaamdfdnoegaaKySm
import Derived.Test.YtbfaamdfdnoegaaKyBulk
import Derived.Deep.RegionHeld3
import Derived.Deep.RegionHeldLaw
import Derived.Lib.QuietBelow
import Derived.BigQuiet
namespace Go.Proofs.Ytbfaamdfdnoegaa
open Go.ChangeShapes Go.WideShapes Go.ChangeAt Go.RowKit Go.Sort
set_option linter.unusedVariables false
set_option linter.unusedSimpArgs false
set_option maxRecDepth 100000

/-- An append of nothing. -/
theorem appN {ops : Array Oper} {rest : List Oper} {o : Oper} {a : Act} {Q : Exit → Act → World → Prop} (w : World) (hw : Region.wanted o (yielded ops a.tmps) = true) (s x : Operand) (t : TypeId)
    (ho : o.op = .call { callee := .builtin .append, args := #[s, x], argTypes := #[t, t] }) (base : Nat) (e : TypeId) (size : Nat) (i0 : TypeInfo) (ht : Try.prog.underlying t = some (.slice e)) (hi : Try.prog.info? e = some i0)
    (v : Value) (n : Nat) (xs : List Value) (hs : a.eval s = v) (hown : w.ownsRow base e size v n xs) (hx : a.eval x = .slice none 0 0)
    (h : wpList Try.prog ops Q rest (a.put o.dst v) w) : wpList Try.prog ops Q (o :: rest) a w := by
  refine BigFrame.wpList_want hw fun K hK => ?_
  have hrun := run_append_owned_none (P := Try.prog) (w := w) base t o.type e i0 size ht hi v n xs hown
  unfold Oper.wp
  simp [execOp, ho, resolve, invoke, builtin, hs, hx, hrun, Result.andThen]
  exact hK _ _ h

theorem slice_nil0 {H : Type} {enc : TypeId × Value → H} {W : World} {a : Option Addr} {len cap : Nat} {d : DataW H} {p : List MemPlace}
    (h : DataW.Trod enc Try.prog W 0 (fun _ => true) true 31 (.slice a len cap) d p) : a = none → cap = 0 := by
  intro ha
  subst ha
  obtain ⟨fuel, hf⟩ := h
  rcases Go.Deep.open_slice Try.underlying31 hf with ⟨hcs, _⟩ | ⟨x, l, c, m, n, D, Pl, hcs, _⟩
  · simp [Value.cells] at hcs
    exact hcs.2
  · simp [Value.cells] at hcs

/-- A row that may be spoilt: it lies from m0 on and ahead of D. -/
def Sp (m0 D : Nat) (v : Value) (w : World) : Prop := ∃ pu nu cu, v = .slice pu nu cu ∧ nu ≤ 4611686018427387904 ∧ ∀ j, j < nu → ∃ g u, pu = some ⟨g, 0, none⟩ ∧ m0 ≤ g ∧ g < D ∧ w.cell? ⟨g, j * 2, none⟩ = some u ∧ w.frozen? ⟨g, j * 2, none⟩ = false

theorem OwnR.sp {w : World} {base m0 D : Nat} {v : Value} {l : List Rg} (h : OwnR w base v l) (hb : m0 ≤ base) (hD : w.heap.size ≤ D) (hl : l.length ≤ 4611686018427387904) : Sp m0 D v w := by
  rcases h.row with ⟨rfl, rfl⟩ | ⟨g, cap, rfl, h1, h2, h3, h4, h5⟩
  · exact ⟨_, _, _, rfl, Nat.zero_le _, fun j hj => by omega⟩
  · refine ⟨_, _, _, rfl, hl, fun j hj => ?_⟩
    obtain ⟨⟨c0, c1⟩, f0, f1⟩ := h5 j _ (List.getElem?_eq_getElem hj)
    exact ⟨g, _, rfl, by omega, by omega, c0, f0⟩

theorem Sp.below {w w' : World} {m0 D B : Nat} {v : Value} (h : Sp m0 D v w) (hb : Below B w w') (hD : D ≤ B) : Sp m0 D v w' := by
  obtain ⟨pu, nu, cu, rfl, h1, h2⟩ := h
  refine ⟨_, _, _, rfl, h1, fun j hj => ?_⟩
  obtain ⟨g, u, rfl, h3, h4, h5, h6⟩ := h2 j hj
  have e : w'.heap[g]? = w.heap[g]? := hb.block g (by omega)
  refine ⟨g, u, rfl, h3, h4, ?_, ?_⟩
  · rw [← h5]; simp [World.cell?, e]
  · rw [← h6]; simp [World.frozen?, e]

theorem Sp.wide {w : World} {m0 D D' : Nat} {v : Value} (h : Sp m0 D v w) (hD : D ≤ D') : Sp m0 D' v w := by
  obtain ⟨pu, nu, cu, rfl, h1, h2⟩ := h
  refine ⟨_, _, _, rfl, h1, fun j hj => ?_⟩
  obtain ⟨g, u, rfl, h3, h4, h5, h6⟩ := h2 j hj
  exact ⟨g, u, rfl, h3, by omega, h5, h6⟩

theorem Sp.set {w : World} {m0 D : Nat} {v : Value} (h : Sp m0 D v w) (q : Addr) (x : Value) : Sp m0 D v (w.setCell q x) := by
  obtain ⟨pu, nu, cu, rfl, h1, h2⟩ := h
  refine ⟨_, _, _, rfl, h1, fun j hj => ?_⟩
  obtain ⟨g, u, rfl, h3, h4, h5, h6⟩ := h2 j hj
  obtain ⟨u', h7⟩ := cell?_setCell_some (p := q) (x := x) h5
  exact ⟨g, u', rfl, h3, h4, h7, by simpa using h6⟩

/-- Between the rounds. -/
structure So (w1 : World) (D : Nat) (va vb : Value) (w : World) : Prop where
  bel : Below w1.heap.size w1 w
  ca : w.cell? ⟨D, 0, none⟩ = some va
  cb : w.cell? ⟨D, 1, none⟩ = some vb
  sa : Sp w1.heap.size D va w
  sb : Sp w1.heap.size D vb w

theorem So.set {w1 w : World} {D g i : Nat} {va vb : Value} (h : So w1 D va vb w) (hg : w1.heap.size ≤ g) (hD : g < D) (x : Value) : So w1 D va vb (w.setCell ⟨g, i, none⟩ x) where
  bel := h.bel.setCell (p := ⟨g, i, none⟩) hg _
  ca := by rw [World.cell?_setCell_other _ _ _ _ (by simp <;> omega)]; exact h.ca
  cb := by rw [World.cell?_setCell_other _ _ _ _ (by simp <;> omega)]; exact h.cb
  sa := h.sa.set _ _
  sb := h.sb.set _ _

theorem So.row {w1 w : World} {D : Nat} {va vb : Value} (h : So w1 D va vb w) (k : Nat) (hk : k < 2) : ∃ pu nu cu, w.cell? ⟨D, k, none⟩ = some (.slice pu nu cu) ∧ nu ≤ 4611686018427387904 ∧ ∀ W, So w1 D va vb W → ∀ j, j < nu → ∃ g u, pu = some ⟨g, 0, none⟩ ∧ w1.heap.size ≤ g ∧ g < D ∧ W.cell? ⟨g, j * 2, none⟩ = some u ∧ W.frozen? ⟨g, j * 2, none⟩ = false := by
  match k, hk with
  | 0, _ =>
    obtain ⟨pu, nu, cu, rfl, h1, -⟩ := h.sa
    refine ⟨pu, nu, cu, h.ca, h1, fun W hW j hj => ?_⟩
    obtain ⟨pu', nu', cu', e, -, h2⟩ := hW.sa
    cases e
    exact h2 j hj
  | 1, _ =>
    obtain ⟨pu, nu, cu, rfl, h1, -⟩ := h.sb
    refine ⟨pu, nu, cu, h.cb, h1, fun W hW j hj => ?_⟩
    obtain ⟨pu', nu', cu', e, -, h2⟩ := hW.sb
    cases e
    exact h2 j hj
  | n + 2, h => omega

set_option maxHeartbeats 8000000 in
theorem walk_keysOwn (p : Option Addr) (len cap : Nat) (l : List Rg) (r : Rg) (w : World) (hin : InR w p len cap l) (hcap : p = none → cap = 0) :
    Calls Try.prog 8 #[.slice p len cap, r.val] w fun e w' => e = .returned (.bool true) ∧ Below w.heap.size w w' := by
  obtain ⟨hlen, hrgs, hroom, hnil⟩ := hin
  have HL : Hid (l.length = len) := hlen
  have HN : Hid (p = none → len = 0) := hnil
  have HC : Hid (p = none → cap = 0) := hcap
  clear hcap
  obtain ⟨w0, hw0⟩ : ∃ w0, w0 = w.alloc (.cells #[.string r.lo, .string r.hi] 23) := ⟨_, rfl⟩
  have HB0 : Hid (Below w.heap.size w w0) := by rw [hw0]; exact (Below.refl _ _).alloc (Nat.le_refl _) _
  have HK0 : Hid (Bk w0 w.heap.size 23 #[.string r.lo, .string r.hi]) := by rw [hw0]; exact Bk.new _ _ _
  have HX0 : Hid (Rgs w0 p l) := hrgs.below HB0.out (Nat.le_refl _)
  have HS0 : Hid (w.heap.size < w0.heap.size) := HK0.out.lt
  have hlm : len ≤ 3298534883328 := by omega
  obtain ⟨i0, hi, hz0, hz1, hz2⟩ := rg_info
  clear hlen hrgs hnil
  have HM : Hid ((w0.alloc (.cells #[] 23)).ownsRow w0.heap.size 23 2 (.slice (some ⟨w.heap.size + 1, 0, none⟩) 0 0) 0 []) := by
    have h1 : w0.heap.size = w.heap.size + 1 := by rw [hw0]; simp
    have h2 := World.ownsRow_made w0 (base := w0.heap.size) (e := 23) (size := 2) #[] 0 (Nat.le_refl _) (Nat.zero_le _) (by simp)
    rw [← h1]
    exact h2
  have HZ : Hid (w0.heap.size = w.heap.size + 1) := by rw [hw0]; simp [Hid]
  cases p with
  | none =>
    obtain rfl : len = 0 := HN.out rfl
    obtain rfl : cap = 0 := HC.out rfl
    obtain rfl : l = [] := List.eq_nil_of_length_eq_zero HL.out
    go_enter Try.func8, Try.ntmps8
    go_wp2_with fail
    rw [← hw0]
    obtain ⟨w1, hw1⟩ : ∃ w1, w0.alloc (.cells #[] 23) = w1 := ⟨_, rfl⟩
    have hsz : w0.heap.size = w.heap.size + 1 := by rw [hw0]; simp
    obtain ⟨v0, hv0⟩ : ∃ v0, Value.slice (some ⟨w.heap.size + 1, 0, none⟩) 0 0 = v0 := ⟨_, rfl⟩
    have HO : Hid (OwnR w1 w0.heap.size v0 []) := by
      rw [← hw1, ← hv0, ← hsz]
      exact World.ownsRow_made w0 #[] 0 (Nat.le_refl _) (Nat.zero_le _) (by simp)
    have HB1 : Hid (Below w0.heap.size w0 w1) := by rw [← hw1]; exact (Below.refl _ w0).alloc (Nat.le_refl _) _
    rw [hw1, hv0]
    clear hw0 hw1 hv0 hsz
    obtain ⟨p0, c0, hv0, hr0, -⟩ := HO.out.rgs
    rw [HL.out] at hv0
    subst hv0
    have HR0 : Hid (Rgs w1 p0 []) := hr0
    have HX : Hid (∀ w', Below w1.heap.size w1 w' → Rgs w' none [] ∧ (w'.cell? ⟨w.heap.size, 0, none⟩ = some (.string r.lo) ∧ w'.cell? ⟨w.heap.size, 1, none⟩ = some (.string r.hi)) ∧ Below w.heap.size w w' ∧ w1.heap.size ≤ w'.heap.size) := by
      intro w' hb
      have hb0 : Below w0.heap.size w0 w' := HB1.out.trans (hb.mono HB1.out.size)
      have hk := HK0.out.below hb0 HS0.out
      exact ⟨HX0.out.below hb0 (Nat.le_refl _), ⟨hk.cell 0, hk.cell 1⟩, HB0.out.trans (hb0.mono HB0.out.size), hb.size⟩
    have HS1 : Hid (w.heap.size < w1.heap.size) := Nat.lt_of_lt_of_le HS0.out HB1.out.size
    have hB : Below w1.heap.size w1 w1.drew := (Below.refl _ _).drew
    have hk0 := (HX.out _ hB).2.1
    have hk1 := (HX.out _ (Below.refl _ _)).2.1
    clear hr0 HO
    go_wp2_with fail
    go_region_held3 (fun w' => w'.cell? ⟨w.heap.size, 0, none⟩ = some (.string r.lo) ∧ w'.cell? ⟨w.heap.size, 1, none⟩ = some (.string r.hi)) (go_keep) (first
      | (go_at_call 27; refine (union_any none 0 0 [] _ HL.out (HX.out _ hB).1 hlm (fun _ => rfl)).mono ?_; rintro e wa ⟨v1, l1, rfl, hp1, hs1, ho1, hb1⟩; have hB1 := hB.trans (hb1.mono (HX.out _ hB).2.2.2); have hkc := (HX.out _ hB1).2.1; obtain ⟨pa, ca, rfl, hra, hna⟩ := ho1.rgs)
      | (go_at_call 31; refine (minus_any none 0 0 [] r _ HL.out (HX.out _ hB1).1 hroom (fun _ => rfl)).mono ?_; rintro e w2 ⟨v2, l2, l3, rfl, hp2, hs2, hp3, hs3, ho2, hb2⟩; have hB2 := hB1.trans (hb2.mono (HX.out _ hB1).2.2.2); have hkc2 := (HX.out _ hB2).2.1; obtain ⟨pb, cb, rfl, hrb, hnb⟩ := ho2.rgs; have hn1 : w2.heap.size ≠ w.heap.size := (by have := (HX.out _ hB2).2.2.2; have := HS1.out; omega)))
    have hla : (Ky.uni l1).length ≤ 4611686018427387904 := by
      have h1 := Ky.uni_len l1 []
      have h2 := hp1.length_eq
      have h3 := Ky.full_le []
      have h4 := HL.out
      unfold Ky.uni
      simp only [List.length_nil] at h1
      omega
    have hlb : (Ky.uni l3).length ≤ 4611686018427387904 := by
      have h1 := Ky.uni_len l3 []
      have h2 := hp3.length_eq
      have h3 := Ky.full_le (Ky.left (Ky.uni l2) (Ky.around r))
      have h4 := Ky.left_len (Ky.uni l2) (Ky.around r)
      have h5 := Ky.uni_len l2 []
      have h6 := hp2.length_eq
      have h7 := Ky.full_le []
      have h8 := HL.out
      have h9 : (Ky.uni l2).length * (Ky.around r).length ≤ 1048576 * 2 := Nat.mul_le_mul (by unfold Ky.uni; simp only [List.length_nil] at h5; omega) (Ky.around_len r)
      unfold Ky.uni at h9 h4 h3 h2 ⊢
      simp only [List.length_nil] at h1
      omega
    have hsa0 : Sp w1.heap.size w2.heap.size (.slice pa (Ky.uni l1).length ca) w2 := ((ho1.sp (Nat.le_refl _) (Nat.le_refl _) hla).below hb2 (Nat.le_refl _)).wide hb2.size
    have hsb0 : Sp w1.heap.size w2.heap.size (.slice pb (Ky.uni l3).length cb) w2 := ho2.sp (HX.out _ hB1).2.2.2 (Nat.le_refl _) hlb
    generalize Ky.uni l1 = ua at hsa0 ⊢
    generalize Ky.uni l3 = ub at hsb0 ⊢
    have HSO : Hid (So w1 w2.heap.size (.slice pa ua.length ca) (.slice pb ub.length cb) (w2.alloc (.cells #[.slice pa ua.length ca, .slice pb ub.length cb] 31))) := by
      have hk : Bk (w2.alloc (.cells #[.slice pa ua.length ca, .slice pb ub.length cb] 31)) w2.heap.size 31 #[.slice pa ua.length ca, .slice pb ub.length cb] := Bk.new _ _ _
      have hb3 : Below w2.heap.size w2 (w2.alloc (.cells #[.slice pa ua.length ca, .slice pb ub.length cb] 31)) := (Below.refl _ w2).alloc (Nat.le_refl _) _
      exact ⟨hB2.trans (hb3.mono (HX.out _ hB2).2.2.2), hk.cell 0, hk.cell 1, hsa0.below hb3 (Nat.le_refl _), hsb0.below hb3 (Nat.le_refl _)⟩
    clear hla hlb hra hna hrb hnb ho1 ho2 hb1 hb2 hB1 hB2 hB hkc hkc2 hk0 hk1 hp1 hs1 hp2 hs2 hp3 hs3 hn1 hsa0 hsb0
    generalize w2.heap.size = D at HSO ⊢
    generalize (w2.alloc (.cells #[.slice pa ua.length ca, .slice pb ub.length cb] 31)) = w3 at HSO ⊢
    go_wp2_with fail
    go_loopw [19] (fun i wr => ∃ k : Nat, k ≤ 2 ∧ i = .int .i64 k ∧ Hid (So w1 D (.slice pa ua.length ca) (.slice pb ub.length cb) wr)) (fun i _ => 2 - (intOf i).toNat)
    case atStart => exact ⟨0, Nat.zero_le _, rfl, HSO⟩
    case round =>
      obtain ⟨k, hk, rfl, HW⟩ := hrel
      by_cases hlt : k < 2
      · have hli : (k : Int) < 2 := by omega
        obtain ⟨pu, nu, cu, hcu, hlu, hrow⟩ := HW.out.row k hlt
        have HROW : Hid _ := hrow
        clear hrow
        go_wp2_with fail
        go_loopw [25] (fun i wr => ∃ j : Nat, j ≤ nu ∧ i = .int .i64 j ∧ Hid (So w1 D (.slice pa ua.length ca) (.slice pb ub.length cb) wr)) (fun i _ => nu - (intOf i).toNat)
        case atStart => exact ⟨0, Nat.zero_le _, rfl, HW⟩
        case round =>
          obtain ⟨j, hj, rfl, HV⟩ := hrel
          by_cases hjt : j < nu
          · have hji : (j : Int) < (nu : Int) := by omega
            have hj0 : (0 : Int) ≤ (j : Int) := by omega
            obtain ⟨g, u, rfl, hg0, hgD, cu0, fu0⟩ := HROW.out _ HV.out j hjt
            have HF : Hid (∀ x, So w1 D (.slice pa ua.length ca) (.slice pb ub.length cb) (World.setCell _ ⟨g, j * 2, none⟩ x)) := fun x => HV.out.set hg0 hgD x
            go_wp2
            go_roundw
            case rel => exact ⟨j + 1, by omega, by go_num, HF.out _⟩
            case measure => simp [intOf]; omega
          · have hji : ¬ ((j : Int) < (nu : Int)) := by omega
            go_wp2
            go_roundw
            case rel => exact ⟨k + 1, by omega, by go_num, HV⟩
            case measure => simp [intOf]; omega
      · have hkk : k = 2 := by omega
        subst hkk
        have HBW : Hid (Below w1.heap.size w1 wr) := HW.out.bel
        go_wp2_with fail
        refine (live_any _).mono ?_
        rintro e w9 ⟨rfl, hb9⟩
        have HB9 : Hid (Below w1.heap.size w1 w9) := HBW.out.trans (hb9.mono HBW.out.size)
        clear hb9
        go_wp2_with fail
        refine (rsame_any HL.out (HX.out _ HB9.out).1 (HR0.out.below HB9.out (Nat.le_refl _)) (by omega)).mono ?_
        rintro e w10 ⟨rfl, hb10⟩
        have HB10 : Hid (Below w.heap.size w w10) := (HX.out _ HB9.out).2.2.1.trans (hb10.mono (HX.out _ HB9.out).2.2.1.size)
        clear hb10
        go_wp2
        go_ret
        exact ⟨rfl, HB10.out⟩
  | some ad =>
    go_enter Try.func8, Try.ntmps8
    go_wp2_with (at_builtin; refine wpList_append_own _ rfl _ _ 31 rfl w0.heap.size 23 i0 _ 2 32 Try.underlying31 hi hz0 hz1 hz2 rfl (by decide) _ _ _ rfl (by rw [← hw0]; exact HM.out) ad len cap (flatR l) rfl ?qc1 ?qc2 ?qc3 ?qc4 ?qc5 ?qc6 ?_)
    case qc1 => rw [flatR_len, HL.out]
    case qc2 =>
      rw [← hw0]
      intro j u hj
      have hb0 : Below w0.heap.size w0 (w0.alloc (.cells #[] 23)) := (Below.refl _ _).alloc (Nat.le_refl _) _
      exact (HX0.out.below hb0 (Nat.le_refl _)).news ad rfl j u hj
    case qc3 => exact flatR_one l
    case qc4 => unfold maxLen; omega
    case qc5 => omega
    case qc6 => rw [← hw0]; simp
    intro v0 w1 hown hgrow hnil
    rw [← hw0] at hgrow
    clear HM
    have HO : Hid (OwnR w1 w0.heap.size v0 l) := by
      unfold OwnR
      rw [Hid, HL.out, HZ.out]
      simpa using hown
    have HB1 : Hid (Below w0.heap.size w0 w1) := ((Below.refl _ w0).alloc (Nat.le_refl _) _).grown hgrow (by simp) (by intro k hk; simp [Value.ownBlock] at hk; have := HZ.out; omega)
    clear hown hgrow hnil hw0
    obtain ⟨p0, c0, hv0, hr0, -⟩ := HO.out.rgs
    rw [HL.out] at hv0
    subst hv0
    have HR0 : Hid (Rgs w1 p0 l) := hr0
    have HX : Hid (∀ w', Below w1.heap.size w1 w' → Rgs w' (some ad) l ∧ (w'.cell? ⟨w.heap.size, 0, none⟩ = some (.string r.lo) ∧ w'.cell? ⟨w.heap.size, 1, none⟩ = some (.string r.hi)) ∧ Below w.heap.size w w' ∧ w1.heap.size ≤ w'.heap.size) := by
      intro w' hb
      have hb0 : Below w0.heap.size w0 w' := HB1.out.trans (hb.mono HB1.out.size)
      have hk := HK0.out.below hb0 HS0.out
      exact ⟨HX0.out.below hb0 (Nat.le_refl _), ⟨hk.cell 0, hk.cell 1⟩, HB0.out.trans (hb0.mono HB0.out.size), hb.size⟩
    have HS1 : Hid (w.heap.size < w1.heap.size) := Nat.lt_of_lt_of_le HS0.out HB1.out.size
    have hB : Below w1.heap.size w1 w1.drew := (Below.refl _ _).drew
    have hk0 := (HX.out _ hB).2.1
    have hk1 := (HX.out _ (Below.refl _ _)).2.1
    clear hr0 HO
    go_wp2_with fail
    go_region_held3 (fun w' => w'.cell? ⟨w.heap.size, 0, none⟩ = some (.string r.lo) ∧ w'.cell? ⟨w.heap.size, 1, none⟩ = some (.string r.hi)) (go_keep) (first
      | (go_at_call 27; refine (union_any (some ad) len cap l _ HL.out (HX.out _ hB).1 hlm HN.out).mono ?_; rintro e wa ⟨v1, l1, rfl, hp1, hs1, ho1, hb1⟩; have hB1 := hB.trans (hb1.mono (HX.out _ hB).2.2.2); have hkc := (HX.out _ hB1).2.1; obtain ⟨pa, ca, rfl, hra, hna⟩ := ho1.rgs)
      | (go_at_call 31; refine (minus_any (some ad) len cap l r _ HL.out (HX.out _ hB1).1 hroom HN.out).mono ?_; rintro e w2 ⟨v2, l2, l3, rfl, hp2, hs2, hp3, hs3, ho2, hb2⟩; have hB2 := hB1.trans (hb2.mono (HX.out _ hB1).2.2.2); have hkc2 := (HX.out _ hB2).2.1; obtain ⟨pb, cb, rfl, hrb, hnb⟩ := ho2.rgs; have hn1 : w2.heap.size ≠ w.heap.size := (by have := (HX.out _ hB2).2.2.2; have := HS1.out; omega)))
    have hla : (Ky.uni l1).length ≤ 4611686018427387904 := by
      have h1 := Ky.uni_len l1 []
      have h2 := hp1.length_eq
      have h3 := Ky.full_le l
      have h4 := HL.out
      unfold Ky.uni
      simp only [List.length_nil] at h1
      omega
    have hlb : (Ky.uni l3).length ≤ 4611686018427387904 := by
      have h1 := Ky.uni_len l3 []
      have h2 := hp3.length_eq
      have h3 := Ky.full_le (Ky.left (Ky.uni l2) (Ky.around r))
      have h4 := Ky.left_len (Ky.uni l2) (Ky.around r)
      have h5 := Ky.uni_len l2 []
      have h6 := hp2.length_eq
      have h7 := Ky.full_le l
      have h8 := HL.out
      have h9 : (Ky.uni l2).length * (Ky.around r).length ≤ 1048576 * 2 := Nat.mul_le_mul (by unfold Ky.uni; simp only [List.length_nil] at h5; omega) (Ky.around_len r)
      unfold Ky.uni at h9 h4 h3 h2 ⊢
      simp only [List.length_nil] at h1
      omega
    have hsa0 : Sp w1.heap.size w2.heap.size (.slice pa (Ky.uni l1).length ca) w2 := ((ho1.sp (Nat.le_refl _) (Nat.le_refl _) hla).below hb2 (Nat.le_refl _)).wide hb2.size
    have hsb0 : Sp w1.heap.size w2.heap.size (.slice pb (Ky.uni l3).length cb) w2 := ho2.sp (HX.out _ hB1).2.2.2 (Nat.le_refl _) hlb
    generalize Ky.uni l1 = ua at hsa0 ⊢
    generalize Ky.uni l3 = ub at hsb0 ⊢
    have HSO : Hid (So w1 w2.heap.size (.slice pa ua.length ca) (.slice pb ub.length cb) (w2.alloc (.cells #[.slice pa ua.length ca, .slice pb ub.length cb] 31))) := by
      have hk : Bk (w2.alloc (.cells #[.slice pa ua.length ca, .slice pb ub.length cb] 31)) w2.heap.size 31 #[.slice pa ua.length ca, .slice pb ub.length cb] := Bk.new _ _ _
      have hb3 : Below w2.heap.size w2 (w2.alloc (.cells #[.slice pa ua.length ca, .slice pb ub.length cb] 31)) := (Below.refl _ w2).alloc (Nat.le_refl _) _
      exact ⟨hB2.trans (hb3.mono (HX.out _ hB2).2.2.2), hk.cell 0, hk.cell 1, hsa0.below hb3 (Nat.le_refl _), hsb0.below hb3 (Nat.le_refl _)⟩
    clear hla hlb hra hna hrb hnb ho1 ho2 hb1 hb2 hB1 hB2 hB hkc hkc2 hk0 hk1 hp1 hs1 hp2 hs2 hp3 hs3 hn1 hsa0 hsb0
    generalize w2.heap.size = D at HSO ⊢
    generalize (w2.alloc (.cells #[.slice pa ua.length ca, .slice pb ub.length cb] 31)) = w3 at HSO ⊢
    go_wp2_with fail
    go_loopw [19] (fun i wr => ∃ k : Nat, k ≤ 2 ∧ i = .int .i64 k ∧ Hid (So w1 D (.slice pa ua.length ca) (.slice pb ub.length cb) wr)) (fun i _ => 2 - (intOf i).toNat)
    case atStart => exact ⟨0, Nat.zero_le _, rfl, HSO⟩
    case round =>
      obtain ⟨k, hk, rfl, HW⟩ := hrel
      by_cases hlt : k < 2
      · have hli : (k : Int) < 2 := by omega
        obtain ⟨pu, nu, cu, hcu, hlu, hrow⟩ := HW.out.row k hlt
        have HROW : Hid _ := hrow
        clear hrow
        go_wp2_with fail
        go_loopw [25] (fun i wr => ∃ j : Nat, j ≤ nu ∧ i = .int .i64 j ∧ Hid (So w1 D (.slice pa ua.length ca) (.slice pb ub.length cb) wr)) (fun i _ => nu - (intOf i).toNat)
        case atStart => exact ⟨0, Nat.zero_le _, rfl, HW⟩
        case round =>
          obtain ⟨j, hj, rfl, HV⟩ := hrel
          by_cases hjt : j < nu
          · have hji : (j : Int) < (nu : Int) := by omega
            have hj0 : (0 : Int) ≤ (j : Int) := by omega
            obtain ⟨g, u, rfl, hg0, hgD, cu0, fu0⟩ := HROW.out _ HV.out j hjt
            have HF : Hid (∀ x, So w1 D (.slice pa ua.length ca) (.slice pb ub.length cb) (World.setCell _ ⟨g, j * 2, none⟩ x)) := fun x => HV.out.set hg0 hgD x
            go_wp2
            go_roundw
            case rel => exact ⟨j + 1, by omega, by go_num, HF.out _⟩
            case measure => simp [intOf]; omega
          · have hji : ¬ ((j : Int) < (nu : Int)) := by omega
            go_wp2
            go_roundw
            case rel => exact ⟨k + 1, by omega, by go_num, HV⟩
            case measure => simp [intOf]; omega
      · have hkk : k = 2 := by omega
        subst hkk
        have HBW : Hid (Below w1.heap.size w1 wr) := HW.out.bel
        go_wp2_with fail
        refine (live_any _).mono ?_
        rintro e w9 ⟨rfl, hb9⟩
        have HB9 : Hid (Below w1.heap.size w1 w9) := HBW.out.trans (hb9.mono HBW.out.size)
        clear hb9
        go_wp2_with fail
        refine (rsame_any HL.out (HX.out _ HB9.out).1 (HR0.out.below HB9.out (Nat.le_refl _)) (by omega)).mono ?_
        rintro e w10 ⟨rfl, hb10⟩
        have HB10 : Hid (Below w.heap.size w w10) := (HX.out _ HB9.out).2.2.1.trans (hb10.mono (HX.out _ HB9.out).2.2.1.size)
        clear hb10
        go_wp2
        go_ret
        exact ⟨rfl, HB10.out⟩

theorem contract_keysOwn (H : Type) (enc : TypeId × Value → H) (W : World) (base : Nat) (args : Array Value) (ds gs : List (DataW H)) (before : List MemPlace)
    (hval0 : ∀ (j : Nat) t v, Try.f8.params[j]? = some t → args[j]? = some v → Value.okWide Try.prog W .any base t v)
    (hW : DataW.Whole enc Try.prog Try.f8.params.toList Rows.keysOwnSpec.vars false W args.toList ds gs before) (hk : Rows.uptoSmall H (ds ++ gs) = true) :
    Calls Try.prog 8 args W fun e W' => ∃ v, e = .returned v ∧ Rows.keysOwnSpec.post enc Try.prog Try.f8 false true false false W args v W' := by
  have hval : ∀ (j : Nat) t v, Try.f8.params[j]? = some t → args[j]? = some v → Value.okWide Try.prog W .any base t v := hval0
  have hW' := hW
  obtain ⟨p, q, hA0, hV, rfl, hfz, hnd⟩ := hW
  have hA : DataW.TrodAll enc Try.prog W 0 (fun _ => true) true Try.f8.params.toList args.toList ds p := hA0
  rw [Try.params8] at hA hval
  obtain ⟨v0, vs0, d0, ds0, p0, q0, hargs, rfl, rfl, h0, r0⟩ := trodAll_cons hA
  obtain ⟨v1, vs1, d1, ds1, p1, q1, rfl, rfl, rfl, h1, r1⟩ := trodAll_cons r0
  obtain ⟨rfl, rfl, rfl⟩ := trodAll_nil r1
  obtain rfl : args = #[v0, v1] := by cases args; simp_all
  obtain ⟨rfl, rfl⟩ := trodVars_none hV
  simp only [List.append_nil] at hk
  obtain ⟨a0, len0, cap0, rfl⟩ := okWide_slice Try.underlying31 (hval 0 31 v0 rfl rfl)
  have k0 := h0
  have lt0 : ∀ x ∈ p0, x.block < W.heap.size := by obtain ⟨m, hm⟩ := k0; exact DataW.trod_lt m _ _ _ hm
  obtain ⟨z0, w0⟩ := in_rgs h0 (small_slice hk (by simp))
  have k1 := h1
  have lt1 : ∀ x ∈ p1, x.block < W.heap.size := by obtain ⟨m, hm⟩ := k1; exact DataW.trod_lt m _ _ _ hm
  obtain ⟨g1, e1⟩ : ∃ g : Rg, v1 = g.val := by
    obtain ⟨cs, hcs, _⟩ := okWide_struct Try.underlying23 (hval 1 23 v1 rfl rfl)
    obtain ⟨fuel, hf⟩ := h1
    obtain ⟨g, hg⟩ := in_rg hf
    refine ⟨g, ?_⟩
    rw [hcs] at hg ⊢
    congr 1
    apply Array.ext'
    simpa [Value.cells, Rg.cells] using hg
  subst e1
  clear hA0 hval0
  simp only [List.append_nil] at hW'
  refine (walk_keysOwn a0 len0 cap0 z0 g1 W w0 (slice_nil0 k0)).mono fun e W' ⟨he, bel⟩ => ?_
  subst he
  exact ⟨_, rfl, _, _, _, [], _, [], hW', trodAll_mk1 (shut_bool Try.underlying4 _), (trodAll_cons_mk (Below.trod laidOut (by kernel_rfl) (of_decide_eq_true (by kernel_rfl)) k0 bel lt0) (trodAll_cons_mk (Below.trod laidOut (by kernel_rfl) (of_decide_eq_true (by kernel_rfl)) k1 bel lt1) trodAll_mk0)), rfl, bel.frame _, fun h => by cases h⟩

set_option maxRecDepth 100000 in
set_option maxHeartbeats 2000000 in
theorem lifted_keysOwn (os : Os) (started : os.Started) (H : Type) (enc : TypeId × Value → H) (F : Stop.Interp) :
    ReturnsInHanded {} Try.checked os 8 .any ((Rows.OpenSpec.upto Rows.keysOwnSpec).pre6 enc Try.prog Try.f8 Rows.keysOwnUptoRow.domain false) (((Rows.OpenSpec.upto Rows.keysOwnSpec).at F).post enc Try.prog Try.f8 false true false false) := by
  refine returnsInHanded_of_cond (C := Try.checked) (s := Rows.OpenSpec.upto Rows.keysOwnSpec) (k := Rows.uptoSmall) rfl own started (by kernel_rfl) Try.func8
    (OpenSpec.witness (enc := enc) (C := Try.checked) (s := Rows.OpenSpec.upto Rows.keysOwnSpec) (k := Rows.uptoSmall) rfl false ⟨#[], #[.slice none 0 0, .agg #[.string .empty, .string .empty]], []⟩ 8 (by kernel_rfl) (by kernel_rfl) (by kernel_rfl)
      (x := ([.nil, .agg [.lit (.string []), .lit (.string [])]], [], [])) (by kernel_rfl) rfl (by kernel_rfl)) ?_
  intro W base args ds gs before hval hW _ hk _
  exact contract_keysOwn H enc W base args ds gs before hval hW hk

/-- The statement. -/
theorem keysOwn_holds : Rows.KeysOwnUptoSaid :=
  OpenClaim.holds_of_cond 8 Try.f8 rfl rfl rfl rfl rfl rfl rfl ⟨rfl, rfl, rfl, rfl, rfl⟩ rfl rfl rfl rfl rfl (by kernel_rfl) Try.func8 (by kernel_rfl)
    (of_decide_eq_true (by kernel_rfl)) (by unfold Func.isWrapper; first | (rw [if_pos (by decide +kernel)]; kernel_rfl) | (rw [if_neg (by decide +kernel)]; exact ⟨rfl, rfl⟩))
    (fun os started H enc _ F => lifted_keysOwn os started H enc F)
#print axioms keysOwn_holds
end Go.Proofs.Ytbfaamdfdnoegaa
