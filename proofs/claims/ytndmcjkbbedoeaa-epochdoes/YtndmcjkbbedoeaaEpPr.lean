/- An epoch and the document's beside it; a step of both. -/
import Derived.Test.YtndmcjkbbedoeaaEpCn
namespace Go.Proofs.Ytndmcjkbbedoeaa
open Go.RowKit
set_option linter.unusedVariables false
set_option maxRecDepth 100000

structure Pe (w wr : World) (B R : Nat) (bs rs : List Nat) (e : Ep) (j : Nat) : Prop where
  ep : Epn wr B bs e
  re : Ren wr R rs e
  dj : ∀ b ∈ bs, b ∉ rs
  lb : ∀ b ∈ bs, w.heap.size ≤ b
  lr : ∀ b ∈ rs, w.heap.size ≤ b
  below : Below w.heap.size w wr
  le : e.Le j j

theorem Pe.still {w wr w' : World} {B R j k : Nat} {bs rs : List Nat} {e : Ep} (h : Pe w wr B R bs rs e j) (ht : Tn [] wr w') (hk : j ≤ k) : Pe w w' B R bs rs e k :=
  ⟨h.ep.tn ht (by simp), h.re.tn ht (by simp), h.dj, h.lb, h.lr, h.below.trans ((ht.below (Nat.le_refl _) (by simp)).mono h.below.size), h.le.up hk hk⟩

/-- The epoch goes on, the document's waits. -/
theorem Pe.first {w wo w2 : World} {B R j : Nat} {bs rs : List Nat} {e e' : Ep} (h : Pe w wo B R bs rs e j) (hT : EpT wo w2 B bs e') : ∃ bs', Epn w2 B bs' e' ∧ Ren w2 R rs e ∧ (∀ b ∈ bs', b ∉ rs) ∧ (∀ b ∈ bs', w.heap.size ≤ b) ∧ Below w.heap.size w w2 ∧ Tn bs wo w2 := by
  obtain ⟨bs', h1, h2, h3⟩ := hT
  have hs := h.below.size
  refine ⟨bs', h1, h.re.tn h2 (fun b hb hm => h.dj b hm hb), fun b hb hm => ?_, fun b hb => ?_, h.below.trans (h2.below hs h.lb), h2⟩
  · rcases h3 b hb with h4 | h4
    · exact h.dj b h4 hm
    · have := h.re.lt b hm
      omega
  · rcases h3 b hb with h4 | h4
    · exact h.lb b h4
    · omega

/-- .. and both. -/
theorem Pe.second {w w2 w3 : World} {B R k : Nat} {bs rs : List Nat} {e' : Ep} (h1 : Epn w2 B bs e') (hd : ∀ b ∈ bs, b ∉ rs) (hl : ∀ b ∈ bs, w.heap.size ≤ b) (hlr : ∀ b ∈ rs, w.heap.size ≤ b) (hb : Below w.heap.size w w2) (hR : ReT w2 w3 R rs e') (le : e'.Le k k) : ∃ rs', Pe w w3 B R bs rs' e' k := by
  obtain ⟨rs', r1, r2, r3⟩ := hR
  have hs := hb.size
  refine ⟨rs', h1.tn r2 (fun b hb2 hm => hd b hb2 hm), r1, fun b hb2 hm => ?_, hl, fun b hb2 => ?_, hb.trans (r2.below hs hlr), le⟩
  · rcases r3 b hm with h4 | h4
    · exact hd b hb2 h4
    · have := h1.lt b hb2
      omega
  · rcases r3 b hb2 with h4 | h4
    · exact hlr b h4
    · omega

theorem Pe.both {w wo w2 w3 : World} {B R j k : Nat} {bs rs : List Nat} {e e' : Ep} (h : Pe w wo B R bs rs e j) (hT : EpT wo w2 B bs e') (hR : ReT w2 w3 R rs e') (le : e'.Le k k) : ∃ bs' rs', Pe w w3 B R bs' rs' e' k := by
  obtain ⟨bs', h1, h2, h3, h4, h5, h6⟩ := h.first hT
  obtain ⟨rs', h7⟩ := Pe.second h1 h3 h4 h.lr h5 hR le
  exact ⟨bs', rs', h7⟩

/-- What a step leaves. -/
def St (w w' : World) (r : Ending) (R k : Nat) : Prop := ∃ B' bs' rs' e', r = .returned (.tuple #[.pointer (some ⟨B', 0, none⟩), .bool true]) ∧ Pe w w' B' R bs' rs' e' k


def Bx (wr wo : World) (s : Int) (x : Rt) (bs rs : List Nat) : Prop := ∀ (w2 : World) (S : List Nat), Tn S wo w2 → (∀ b ∈ S, b ∈ bs ∨ b ∈ rs ∨ wo.heap.size ≤ b) → (w2.cell? ⟨wr.heap.size, 1, none⟩ = some (.int .i64 s) ∧ w2.cell? ⟨wr.heap.size, 2, none⟩ = some (.int .i64 x.k) ∧ w2.cell? ⟨wr.heap.size, 3, none⟩ = some (.int .i64 x.s) ∧ w2.cell? ⟨wr.heap.size, 4, none⟩ = some (.int .i64 x.g))

theorem Pe.box {w wr : World} {B R j : Nat} {bs rs : List Nat} {e : Ep} (h : Pe w wr B R bs rs e j) (dd s : Int) (x : Rt) : ∃ wo, wr.alloc (.cells #[.int .i64 dd, .int .i64 s, .int .i64 x.k, .int .i64 x.s, .int .i64 x.g] 33) = wo ∧ w.heap.size ≤ wr.heap.size ∧ wo.cell? ⟨wr.heap.size, 0, none⟩ = some (.int .i64 dd) ∧ wo.cell? ⟨wr.heap.size, 1, none⟩ = some (.int .i64 s) ∧ wo.cell? ⟨wr.heap.size, 2, none⟩ = some (.int .i64 x.k) ∧ wo.cell? ⟨wr.heap.size, 3, none⟩ = some (.int .i64 x.s) ∧ wo.cell? ⟨wr.heap.size, 4, none⟩ = some (.int .i64 x.g) ∧ Hid (Pe w wo B R bs rs e j) ∧ Hid (Bx wr wo s x bs rs) ∧ Hid (e.now ≤ 4611686018427387904 → True) := by
  obtain ⟨wo, hwo, hto, hso, d0, d1, d2, d3, d4⟩ := op_box wr ⟨dd, s, x⟩
  have HKO : Bk wo wr.heap.size 33 #[.int .i64 dd, .int .i64 s, .int .i64 x.k, .int .i64 x.s, .int .i64 x.g] := by rw [← hwo]; exact Bk.new _ _ _
  refine ⟨wo, hwo, h.below.size, d0, d1, d2, d3, d4, h.still hto (Nat.le_refl _), ?_, fun _ => trivial⟩
  intro w2 S ht hS
  have := HKO.tn ht (fun hm => by
    rcases hS _ hm with h1 | h1 | h1
    · have := h.ep.lt _ h1; omega
    · have := h.re.lt _ h1; omega
    · omega)
  exact ⟨this.cell 1, this.cell 2, this.cell 3, this.cell 4⟩

theorem Pe.bounds {w wr : World} {B R j : Nat} {bs rs : List Nat} {e : Ep} (h : Pe w wr B R bs rs e j) (hj : j ≤ 3518437208780) : e.now ≤ 4611686018427387904 ∧ e.cur.length ≤ 3600000000000 ∧ e.limbo.length ≤ 3600000000000 ∧ e.old.length + e.cur.length ≤ 3600000000000 := by
  have h1 := h.le.now
  have h2 := h.le.len
  rw [Ep.limbo_length]
  exact ⟨by omega, by omega, by omega, by omega⟩

set_option maxHeartbeats 4000000 in
theorem step_pin {w wr : World} {B R j : Nat} {bs rs : List Nat} {e : Ep} (h : Pe w wr B R bs rs e j) (s : Int) (x : Rt) (hj : j ≤ 3518437208780) :
    Calls Try.prog 11 #[.pointer (some ⟨B, 0, none⟩), .pointer (some ⟨R, 0, none⟩), .agg #[.int .i64 0, .int .i64 s, .int .i64 x.k, .int .i64 x.s, .int .i64 x.g]] wr fun r w' => St w w' r R (j + 1) := by
  obtain ⟨hb1, hb2, hb3, hb4⟩ := h.bounds hj
  obtain ⟨wo, hwo, hsz, d0, d1, d2, d3, d4, HP, HB, -⟩ := h.box 0 s x
  have HL : Hid (e.cur.length ≤ 3600000000000 ∧ e.limbo.length ≤ 3600000000000) := ⟨hb2, hb3⟩
  clear h hb1 hb2 hb3 hb4
  refine Calls.mono (R := fun r w' => Hid (St w w' r R (j + 1))) ?_ (fun r w' h => h.out)
  go_enter Try.func11, Try.ntmps11
  go_wp2_with fail
  go_region_held3 (fun w' => w'.cell? ⟨wr.heap.size, 1, none⟩ = some (.int .i64 s)) (go_keep) (first
    | (go_at_call 15; refine (pin_int (HP.out.ep.tn (Tn.refl [] _).drew (by simp)) s).mono ?_; rintro r w2 ⟨rfl, hT⟩; have hT2 := EpT.pre (Tn.refl [] wo).drew hT; obtain ⟨bs2, f1, f2, f3, f4, f5, f6⟩ := HP.out.first hT2; obtain ⟨s1, s2, s3, s4⟩ := HB.out w2 _ f6 (fun b hb => .inl hb))
    | (go_at_call 24; refine (rpin_int f2 s).mono ?_; rintro r w3 ⟨rfl, hR⟩; obtain ⟨rs3, hP3⟩ := Pe.second (k := j + 1) f1 f3 f4 HP.out.lr f5 hR ((HP.out.le.pinI s).up (by omega) (by omega)); have hR2 := hR; obtain ⟨rs4, -, t4, -⟩ := hR2; obtain ⟨s1, s2, s3, s4⟩ := HB.out w3 (bs ++ rs) ((f6.mono (fun b hb => List.mem_append.2 (.inl hb))).trans t4 (fun b hb => .inl (List.mem_append.2 (.inr hb)))) (fun b hb => (List.mem_append.1 hb).elim .inl (fun h => .inr (.inl h)))))
  go_wp2
  go_ret2
  exact ⟨B, _, _, _, rfl, hP3⟩

set_option maxHeartbeats 4000000 in
theorem step_unpin {w wr : World} {B R j : Nat} {bs rs : List Nat} {e : Ep} (h : Pe w wr B R bs rs e j) (s : Int) (x : Rt) (hj : j ≤ 3518437208780) :
    Calls Try.prog 11 #[.pointer (some ⟨B, 0, none⟩), .pointer (some ⟨R, 0, none⟩), .agg #[.int .i64 1, .int .i64 s, .int .i64 x.k, .int .i64 x.s, .int .i64 x.g]] wr fun r w' => St w w' r R (j + 1) := by
  obtain ⟨hb1, hb2, hb3, hb4⟩ := h.bounds hj
  obtain ⟨wo, hwo, hsz, d0, d1, d2, d3, d4, HP, HB, -⟩ := h.box 1 s x
  have HL : Hid (e.cur.length ≤ 3600000000000 ∧ e.limbo.length ≤ 3600000000000) := ⟨hb2, hb3⟩
  clear h hb1 hb2 hb3 hb4
  refine Calls.mono (R := fun r w' => Hid (St w w' r R (j + 1))) ?_ (fun r w' h => h.out)
  go_enter Try.func11, Try.ntmps11
  go_wp2_with fail
  go_region_held3 (fun w' => w'.cell? ⟨wr.heap.size, 1, none⟩ = some (.int .i64 s)) (go_keep) (first
    | (go_at_call 16; refine (unpin_int (HP.out.ep.tn (Tn.refl [] _).drew (by simp)) s).mono ?_; rintro r w2 ⟨rfl, hT⟩; have hT2 := EpT.pre (Tn.refl [] wo).drew hT; obtain ⟨bs2, f1, f2, f3, f4, f5, f6⟩ := HP.out.first hT2; obtain ⟨s1, s2, s3, s4⟩ := HB.out w2 _ f6 (fun b hb => .inl hb))
    | (go_at_call 25; refine (runpin_int f2 s).mono ?_; rintro r w3 ⟨rfl, hR⟩; obtain ⟨rs3, hP3⟩ := Pe.second (k := j + 1) f1 f3 f4 HP.out.lr f5 hR ((HP.out.le.unpinI s).up (by omega) (by omega)); have hR2 := hR; obtain ⟨rs4, -, t4, -⟩ := hR2; obtain ⟨s1, s2, s3, s4⟩ := HB.out w3 (bs ++ rs) ((f6.mono (fun b hb => List.mem_append.2 (.inl hb))).trans t4 (fun b hb => .inl (List.mem_append.2 (.inr hb)))) (fun b hb => (List.mem_append.1 hb).elim .inl (fun h => .inr (.inl h)))))
  go_wp2
  go_ret2
  exact ⟨B, _, _, _, rfl, hP3⟩

set_option maxHeartbeats 4000000 in
theorem step_retire {w wr : World} {B R j : Nat} {bs rs : List Nat} {e : Ep} (h : Pe w wr B R bs rs e j) (s : Int) (x : Rt) (hj : j ≤ 3518437208780) :
    Calls Try.prog 11 #[.pointer (some ⟨B, 0, none⟩), .pointer (some ⟨R, 0, none⟩), .agg #[.int .i64 2, .int .i64 s, .int .i64 x.k, .int .i64 x.s, .int .i64 x.g]] wr fun r w' => St w w' r R (j + 1) := by
  obtain ⟨hb1, hb2, hb3, hb4⟩ := h.bounds hj
  obtain ⟨wo, hwo, hsz, d0, d1, d2, d3, d4, HP, HB, -⟩ := h.box 2 s x
  have HL : Hid (e.cur.length ≤ 3600000000000 ∧ e.limbo.length ≤ 3600000000000) := ⟨hb2, hb3⟩
  clear h hb1 hb2 hb3 hb4
  refine Calls.mono (R := fun r w' => Hid (St w w' r R (j + 1))) ?_ (fun r w' h => h.out)
  go_enter Try.func11, Try.ntmps11
  go_wp2_with fail
  go_region_held3 (fun w' => w'.cell? ⟨wr.heap.size, 2, none⟩ = some (.int .i64 x.k) ∧ w'.cell? ⟨wr.heap.size, 3, none⟩ = some (.int .i64 x.s) ∧ w'.cell? ⟨wr.heap.size, 4, none⟩ = some (.int .i64 x.g)) (go_keep) (first
    | (go_at_call 17; refine (retire_any (HP.out.ep.tn (Tn.refl [] _).drew (by simp)) x HL.out.1).mono ?_; rintro r w2 ⟨rfl, hT⟩; have hT2 := EpT.pre (Tn.refl [] wo).drew hT; obtain ⟨bs2, f1, f2, f3, f4, f5, f6⟩ := HP.out.first hT2; obtain ⟨s1, s2, s3, s4⟩ := HB.out w2 _ f6 (fun b hb => .inl hb))
    | (go_at_call 26; refine (rretire_any f2 x HL.out.2).mono ?_; rintro r w3 ⟨rfl, hR⟩; obtain ⟨rs3, hP3⟩ := Pe.second (k := j + 1) f1 f3 f4 HP.out.lr f5 hR ((HP.out.le.retire x).up (by omega) (by omega)); have hR2 := hR; obtain ⟨rs4, -, t4, -⟩ := hR2; obtain ⟨s1, s2, s3, s4⟩ := HB.out w3 (bs ++ rs) ((f6.mono (fun b hb => List.mem_append.2 (.inl hb))).trans t4 (fun b hb => .inl (List.mem_append.2 (.inr hb)))) (fun b hb => (List.mem_append.1 hb).elim .inl (fun h => .inr (.inl h)))))
  go_wp2
  go_ret2
  exact ⟨B, _, _, _, rfl, hP3⟩

end Go.Proofs.Ytndmcjkbbedoeaa
