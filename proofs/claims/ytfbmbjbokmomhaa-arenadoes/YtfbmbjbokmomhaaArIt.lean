/- An arena: what is given, told by an iterator. -/
import Derived.Test.YtfbmbjbokmomhaaArSp
import Derived.Test.YtfbmbjbokmomhaaRgQ
namespace Go.Proofs.Ytfbmbjbokmomhaa
open Go.RowKit Go.Shelf
attribute [local go_sem] Oper.semAt_some
set_option linter.unusedVariables false
set_option maxRecDepth 100000

def txt (v : Value) : ByteArray := match v with | .string x => x | _ => ⟨#[]⟩
/-- Of the first k slots those that are given. -/
def glTo (us : List Sl) (k : Nat) : List (Nat × Int × ByteArray) := ((List.range k).filter fun i => (slAt us i).given).map fun i => (i, (slAt us i).gen, txt (slAt us i).val)
def gl (us : List Sl) : List (Nat × Int × ByteArray) := glTo us us.length
theorem glTo_zero (us : List Sl) : glTo us 0 = [] := rfl
theorem glTo_succ (us : List Sl) (k : Nat) : glTo us (k + 1) = glTo us k ++ if (slAt us k).given = true then [(k, (slAt us k).gen, txt (slAt us k).val)] else [] := by
  unfold glTo
  rw [List.range_succ, List.filter_append, List.map_append]
  cases h : (slAt us k).given <;> simp [h]
theorem glTo_pre (us : List Sl) {k n : Nat} (h : k ≤ n) : glTo us k <+: glTo us n := by
  induction n with
  | zero => obtain rfl : k = 0 := by omega
            exact List.prefix_refl _
  | succ n ih =>
    rcases Nat.lt_or_ge k (n + 1) with h1 | h1
    · exact (ih (by omega)).trans (by rw [glTo_succ]; exact List.prefix_append _ _)
    · obtain rfl : k = n + 1 := by omega
      exact List.prefix_refl _
theorem glTo_len (us : List Sl) (k : Nat) : (glTo us k).length = liveTo us k := by
  unfold glTo liveTo
  rw [List.length_map, List.countP_eq_length_filter]

abbrev encG (x : Nat × Int × ByteArray) : Array Value := #[.agg #[.int .i64 (x.1 : Int), .int .i64 x.2.1], .string x.2.2]

theorem IsAr.kp {tA tS : TypeId} {w w' : World} {B : Nat} {uv fv : Value} {fr : List Nat} {a : Ar} {S : List Nat} (h : IsAr tA tS w B uv fv fr a) (hk : KpP S w w') (hS : ∀ b ∈ bsOf B uv fv, b ∈ S) : IsAr tA tS w' B uv fv fr a :=
  ⟨⟨(hk B (hS B (mem_bsOf.2 (.inl rfl)))).trans h.wt.blk, owns_keep h.wt.row (fun k hh => hk k (hS k (mem_bsOf.2 (.inr (.inr hh))))), h.wt.ne, h.wt.len⟩, owns_keep h.row (fun k hh => hk k (hS k (mem_bsOf.2 (.inr (.inl hh))))), h.ne1, h.ne2, h.hp, h.perm, h.le, h.s1, h.s2⟩

theorem below_grown {A A' : World} (h : Below A.heap.size A A') : A.grownBy A' none := ⟨h.os, h.tape, h.output, h.size, fun k hk _ => h.block k hk⟩

set_option maxHeartbeats 4000000 in
theorem good1_in (l Bw B : Nat) (S : List Nat) (uv fv : Value) (fr : List Nat) (a : Ar) (hT : Txs a.us) (hSw : Bw ∈ S) (hSB : ∀ b ∈ bsOf B uv fv, b ∈ S) (J Jx : List (Nat × Int × ByteArray) → World → Prop) (Jp : List PanicEntry → List (Nat × Int × ByteArray) → World → Prop)
    (hJ : ∀ pre A A', J pre A → A.grownBy A' none → J pre A')
    (hY : ∀ pre x W, J pre W → pre ++ [x] <+: gl a.us → YieldAt Fence.wide (8 - 1) Try.prog l (encG x) W fun r W' =>
      (r = .returned (.bool true) ∧ J (pre ++ [x]) W' ∧ KpP S W W') ∨ (r = .returned (.bool false) ∧ Jx (pre ++ [x]) W') ∨ (∃ chain, r = .panicked chain ∧ Jp chain (pre ++ [x]) W'))
    (W : World) (hS : ∀ x ∈ S, x < W.heap.size) (hbx : Bk W Bw 23 #[.pointer (some ⟨B, 0, none⟩)]) (hE : IsAr tAS tSS W B uv fv fr a) (h0 : J [] W) :
    CallsIn Fence.wide 8 Try.prog 58 #[.func (.yield l) #[] #[], .pointer (some ⟨Bw, 0, none⟩)] W fun r W' => ((∃ v, r = .returned v) ∧
      ((∃ ys, ys = gl a.us ∧ J ys W') ∨ (∃ pre, pre <+: gl a.us ∧ Jx pre W'))) ∨ ∃ chain pre, r = .panicked chain ∧ pre <+: gl a.us ∧ Jp chain pre W' := by
  refine callsIn_of_wp Try.func58 rfl trivial ?_ rfl
  simp only [Try.ntmps58, List.size_toArray, List.length_cons, List.length_nil, Nat.reduceAdd, Nat.reduceSub, Array.replicate_succ, Array.replicate_zero, List.push_toArray, List.append_toArray, List.nil_append, List.cons_append]
  have cw : W.cell? ⟨Bw, 0, none⟩ = some (.pointer (some ⟨B, 0, none⟩)) := hbx.cell 0
  obtain ⟨c0, c1, c2, c3⟩ := hE.cells
  have hs1 := hE.s1
  obtain ⟨p, c, hu⟩ := hE.uform
  have HE : Hid (∀ W', KpP S W W' → IsAr tAS tSS W' B uv fv fr a) := fun W' h => hE.kp h hSB
  have HY : Hid _ := hY
  have HJ : Hid (∀ pre A A', J pre A → A.grownBy A' none → J pre A') := hJ
  have HS : Hid (∀ x ∈ S, x < W.heap.size) := hS
  have H0 : Hid (J [] W) := h0
  have HT : Hid (Txs a.us) := hT
  have hul : a.us.length ≤ 65536 := Nat.le_trans hE.le hE.s2
  obtain ⟨n, hn⟩ : ∃ n, a.us.length = n := ⟨_, rfl⟩
  have HN : Hid (a.us.length = n) := hn
  rw [hn] at hu hul
  subst hu
  have HR : Hid (∀ W', KpP S W W' → ∀ i, i < n → ∃ g x, p = some ⟨g, 0, none⟩ ∧ W'.cell? ⟨g, i * 3, none⟩ = some (.int .i64 (slAt a.us i).gen) ∧ W'.cell? ⟨g, i * 3 + 1, none⟩ = some (.bool (slAt a.us i).given) ∧ W'.cell? ⟨g, i * 3 + 2, none⟩ = some (.string x) ∧ txt (slAt a.us i).val = x) := fun W' h i hi => by
    have h1 := (hE.kp h hSB).row
    obtain ⟨g, k, hv⟩ := row_some h1 (by rw [hn]; omega)
    rw [hn] at hv
    cases hv
    obtain ⟨r0, r1, r2⟩ := row_cells hn h1 i hi
    obtain ⟨x, hx⟩ := hT _ (slAt_mem (us := a.us) (i := i) (by rw [hn]; exact hi))
    rw [hx] at r2
    exact ⟨g, x, rfl, r0, r1, r2, by rw [hx]; rfl⟩
  clear hY hJ hS hbx hE h0 hT hn
  gi_wp2_with fail
  refine ⟨trivial, ?_⟩
  refine (callsIn_wide.2 (madeS c0 hs1)).mono ?_
  rintro r w1 ⟨rfl, rfl⟩
  gi_wp2_with fail
  gi_loopw [13] (fun i wr => ∃ k : Nat, k ≤ n ∧ i = .int .i64 (k : Int) ∧ J (glTo a.us k) wr ∧ KpP S w1 wr) (fun i _ => n - (intOf i).toNat)
  case atStart => exact ⟨0, Nat.zero_le _, rfl, H0.out, KpP.refl _ _⟩
  case round =>
    obtain ⟨k, hk, rfl, hJs, hK⟩ := hrel
    by_cases hlt : k < n
    · have hli : (k : Int) < (n : Int) := by omega
      have hk0 : (0 : Int) ≤ (k : Int) := by omega
      obtain ⟨g, x, rfl, r0, r1, r2, hx⟩ := HR.out wr hK k hlt
      have hsu := glTo_succ a.us k
      rw [hx] at hsu
      obtain ⟨gn, hgn⟩ : ∃ gn, (slAt a.us k).gen = gn := ⟨_, rfl⟩
      rw [hgn] at r0 hsu
      obtain ⟨W3, hW3⟩ : ∃ W3, wr.alloc (.cells #[.int .i64 gn, .bool (slAt a.us k).given, .string x] 82) = W3 := ⟨_, rfl⟩
      have hb3 : Below wr.heap.size wr W3 := by rw [← hW3]; exact (Below.refl _ _).alloc (Nat.le_refl _) _
      have k3 : Bk W3 wr.heap.size 82 #[.int .i64 gn, .bool (slAt a.us k).given, .string x] := by rw [← hW3]; exact Bk.new _ _ _
      have HJ3 : Hid (J (glTo a.us k) W3 ∧ KpP S w1 W3) := ⟨HJ.out _ _ _ hJs (below_grown hb3), hK.t (KpP.of_below hb3 (hK.lt HS.out))⟩
      have e0 : W3.cell? ⟨wr.heap.size, 0, none⟩ = some (.int .i64 gn) := k3.cell 0
      have e1 : W3.cell? ⟨wr.heap.size, 1, none⟩ = some (.bool (slAt a.us k).given) := k3.cell 1
      have e2 : W3.cell? ⟨wr.heap.size, 2, none⟩ = some (.string x) := k3.cell 2
      have HP : Hid (glTo a.us (k + 1) <+: gl a.us) := glTo_pre _ (by have := HN.out; omega)
      cases hgv : (slAt a.us k).given with
      | false =>
        rw [hgv] at hW3 r1 e1 hsu
        have HJ4 : Hid (J (glTo a.us (k + 1)) W3 ∧ KpP S w1 W3) := by
          show _ ∧ _
          rw [hsu]
          simpa using HJ3.out
        clear hsu hJs hK hb3 k3 HJ3 hgv hx hgn
        gi_wp2
        refine ⟨by simp, ?_⟩
        gi_wp2
        go_roundw
        case rel => exact ⟨k + 1, by omega, by go_num, HJ4.out⟩
        case measure => simp [intOf]; omega
      | true =>
        rw [hgv] at hW3 r1 e1 hsu
        have HSU : Hid (glTo a.us (k + 1) = glTo a.us k ++ [(k, gn, x)]) := by
          rw [hsu]
          rfl
        obtain ⟨fn, tmps, assign, body, hy, hR⟩ := HY.out (glTo a.us k) (k, gn, x) W3 HJ3.out.1 (by rw [← HSU.out]; exact HP.out)
        try simp only [encG] at hy
        have HK3 : Hid (KpP S w1 W3) := HJ3.out.2
        clear hsu hJs hK hb3 k3 HJ3 hgv hx hgn
        gi_wp2
        refine hR.mono ?_
        rintro e W4 (⟨rfl, hJ4, hk4⟩ | ⟨rfl, hJx4⟩ | ⟨chain, rfl, hJp4⟩)
        · gi_wp2
          go_roundw
          case rel => exact ⟨k + 1, by omega, by go_num, by rw [HSU.out]; exact hJ4, HK3.out.t hk4⟩
          case measure => simp [intOf]; omega
        · gi_wp2
          refine bodyPost_ret (results_none rfl _ _ _) rfl ?_
          exact .inl ⟨⟨_, rfl⟩, .inr ⟨_, by rw [← HSU.out]; exact HP.out, hJx4⟩⟩
        · refine ⟨rfl, ?_⟩
          first
            | exact .inr ⟨chain, _, rfl, by rw [← HSU.out]; exact HP.out, hJp4⟩
            | exact .inr ⟨chain, rfl, _, by rw [← HSU.out]; exact HP.out, hJp4⟩
    · have hli : ¬ (k : Int) < (n : Int) := by omega
      have HEnd : Hid (J (gl a.us) wr) := by
        obtain rfl : k = n := by omega
        rw [← HN.out] at hJs
        exact hJs
      clear hJs hK
      gi_wp2
      go_end0
      exact .inl ⟨⟨_, rfl⟩, .inl HEnd.out⟩

theorem good1_stops {w : World} {Bw B : Nat} {S : List Nat} {uv fv : Value} {fr : List Nat} {a : Ar} (hT : Txs a.us) (hSw : Bw ∈ S) (hSB : ∀ b ∈ bsOf B uv fv, b ∈ S) (hS : ∀ x ∈ S, x < w.heap.size) (hbx : Bk w Bw 23 #[.pointer (some ⟨B, 0, none⟩)]) (hE : IsAr tAS tSS w B uv fv fr a) :
    SeqStopsQ 8 Try.prog 58 #[.pointer (some ⟨Bw, 0, none⟩)] encG (KpP S) (fun ys => ys = gl a.us) (fun pre => pre <+: gl a.us) w := fun l J Jx Jp W hW hJ hY h0 =>
  good1_in l Bw B S uv fv fr a hT hSw hSB J Jx Jp hJ hY W (fun x hx => Nat.lt_of_lt_of_le (hS x hx) hW.size) (hbx.below hW hbx.lt) (hE.tn (Tn.of_below hW []) (by simp)) h0
end Go.Proofs.Ytfbmbjbokmomhaa
