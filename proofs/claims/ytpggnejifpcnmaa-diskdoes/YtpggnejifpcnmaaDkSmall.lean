/- Disks: the small calls that change one. -/
import Derived.Test.YtpggnejifpcnmaaDkRead
namespace Go.Proofs.Ytpggnejifpcnmaa
open Go.RowKit Go.Maps
set_option linter.unusedVariables false

theorem IsDk.reblk {w w' : World} {B S M : Nat} {p : Option Addr} {c : Nat} {kb : List Nat} {d : Dk} (h : IsDk w B S M p c kb d) (k : Tn [B] w w') (d' : Dk)
    (hb : Bk w' B 62 #[.slice (some ⟨S, 0, none⟩) d.n d'.cs, .map (some M), .int .i64 d'.calls, .bool d'.down, .int .i64 d'.left, .slice p d.keep.length c])
    (hn : d'.n = d.n) (hs : d'.sure = d.sure) (hd : d'.dirty = d.dirty) (hk : d'.keep = d.keep) (hl : 0 ≤ d'.left ∧ d'.left ≤ 9223372036854775807) : IsDk w' B S M p c kb d' := by
  obtain ⟨n1, n2, n3⟩ := h.ne_bs
  obtain ⟨cur, hc, hz⟩ := h.sure
  have hnk := h.kne.1
  exact {
    blk := by rw [hn, hk]; exact hb
    sure := ⟨cur, hc.tn k (by simp; omega), by rw [hn, hs]; exact hz⟩
    map := by rw [hn, hd]; exact owns_tn h.map k (by simp; omega)
    keep := by rw [hk]; exact h.keep.tn k (fun ad ha hl => by simp; intro e; exact hnk (e ▸ h.kbs ad ha hl))
    kbs := by rw [hk]; exact h.kbs
    kne := h.kne
    klt := fun b hb => Nat.lt_of_lt_of_le (h.klt b hb) k.size
    n1 := by rw [hn]; exact h.n1
    n2 := by rw [hn]; exact h.n2
    secS := by rw [hn, hs]; exact h.secS
    secD := by rw [hd]; exact h.secD
    lowD := by rw [hn, hd]; exact h.lowD
    left := hl
    knil := by rw [hk]; exact h.knil
    kcap := by rw [hk]; exact h.kcap }

theorem turns_of {w w' : World} {B S M : Nat} {p : Option Addr} {c : Nat} {kb : List Nat} {d : Dk} (h : IsDk w' B S M p c kb d) (k : Tn [B] w w') : Turns w w' B (B :: S :: M :: kb) d :=
  ⟨_, ⟨S, M, p, c, kb, rfl, h⟩, k.mono (by simp), fun b hb => .inl hb⟩

theorem Turns.refl {w : World} {B : Nat} {bs : List Nat} {d : Dk} (h : Dsk w B bs d) : Turns w w B bs d := ⟨bs, h, Tn.refl _ _, fun b hb => .inl hb⟩

theorem Turns.trans {w w1 w2 : World} {B : Nat} {bs : List Nat} {d1 d2 : Dk} (h : Turns w w1 B bs d1) (k : ∀ bs1, Dsk w1 B bs1 d1 → Turns w1 w2 B bs1 d2) : Turns w w2 B bs d2 := by
  obtain ⟨bs1, h1, t1, s1⟩ := h
  obtain ⟨bs2, h2, t2, s2⟩ := k bs1 h1
  refine ⟨bs2, h2, t1.trans t2 s1, fun b hb => ?_⟩
  rcases s2 b hb with hb | hb
  · exact s1 b hb
  · exact .inr (by have := t1.size; omega)

/-- Other memory has been made. -/
theorem Turns.more {w w1 w2 : World} {B : Nat} {bs : List Nat} {d : Dk} (h : Turns w w1 B bs d) (k : Below w1.heap.size w1 w2) : Turns w w2 B bs d :=
  h.trans fun bs1 h1 => ⟨bs1, h1.below k, Tn.of_below k _, fun b hb => .inl hb⟩

theorem Turns.before {w w1 w2 : World} {B : Nat} {bs : List Nat} {d : Dk} (k : Below w.heap.size w w1) (h : Turns w1 w2 B bs d) : Turns w w2 B bs d := by
  obtain ⟨bs1, h1, t1, s1⟩ := h
  refine ⟨bs1, h1, (Tn.of_below k bs).trans t1 (fun b hb => .inl hb), fun b hb => ?_⟩
  rcases s1 b hb with hb | hb
  · exact .inl hb
  · exact .inr (by have := k.size; omega)

/-- A call is counted. -/
def Dk.count (d : Dk) : Bool × Dk := if d.left = 0 then (false, { d with calls := wrap64 (d.calls + 1) }) else (decide (d.left = 1), { d with calls := wrap64 (d.calls + 1), left := d.left - 1 })

set_option maxHeartbeats 2000000 in
theorem count_any {w : World} {B : Nat} {bs : List Nat} {d : Dk} (h : Dsk w B bs d) :
    Calls Try.prog 45 #[.pointer (some ⟨B, 0, none⟩)] w fun e w' => e = .returned (.bool d.count.1) ∧ Turns w w' B bs d.count.2 := by
  obtain ⟨S, M, p, c, kb, rfl, h⟩ := h
  have HD : Hid (IsDk w B S M p c kb d) := h
  obtain ⟨-, -, c2, -, c4, -⟩ := h.cells
  have f2 := h.blk.frozen 2
  have f4 := h.blk.frozen 4
  have hl := h.left
  clear h
  obtain ⟨l, hlq⟩ : ∃ l, l = d.left := ⟨_, rfl⟩
  rw [← hlq] at c4 hl
  have HQ : Hid (l = d.left) := hlq
  obtain ⟨q, hq⟩ : ∃ q, q = d.calls := ⟨_, rfl⟩
  rw [← hq] at c2
  have HQ2 : Hid (q = d.calls) := hq
  clear hlq hq
  by_cases h0 : l = 0
  · subst h0
    go_enter Try.func45, Try.ntmps45
    go_wp2
    go_ret
    have e1 : d.count = (false, { d with calls := wrap64 (d.calls + 1) }) := by simp [Dk.count, ← HQ.out]
    rw [e1]
    refine ⟨rfl, turns_of (IsDk.reblk HD.out (Tn.setCell (Tn.refl _ _) (by simp) _) _ ?_ rfl rfl rfl rfl HD.out.left) (Tn.setCell (Tn.refl _ _) (by simp) _)⟩
    rw [← HQ2.out]
    exact HD.out.blk.set 2 _
  · go_enter Try.func45, Try.ntmps45
    go_wp2
    go_ret
    have hl0 : ¬ d.left = 0 := by rw [← HQ.out]; exact h0
    have e1 : d.count = (decide (d.left = 1), { d with calls := wrap64 (d.calls + 1), left := d.left - 1 }) := by simp [Dk.count, hl0]
    rw [e1]
    have t1 : Tn [B] w ((w.setCell ⟨B, 2, none⟩ (Value.int IntKind.i64 (wrap64 (q + 1)))).setCell ⟨B, 4, none⟩ (Value.int IntKind.i64 (l - 1))) := Tn.setCell (Tn.setCell (Tn.refl _ _) (by simp) _) (by simp) _
    refine ⟨?_, turns_of (IsDk.reblk HD.out t1 _ ?_ rfl rfl rfl rfl ?_) t1⟩
    · rw [← HQ.out]
      have : (l - 1 == 0) = decide (l = 1) := by
        rw [Bool.eq_iff_iff]
        simp
        omega
      simp [this]
    · rw [← HQ2.out, ← HQ.out]
      exact (HD.out.blk.set 2 _).set 4 _
    · have := HQ.out
      simp only []
      omega

set_option maxHeartbeats 2000000 in
theorem forget_any {w : World} {B S M : Nat} {p : Option Addr} {c : Nat} {kb : List Nat} {d : Dk} (h : IsDk w B S M p c kb d) :
    Calls Try.prog 48 #[.pointer (some ⟨B, 0, none⟩)] w fun e w' => e = .returned (.tuple #[]) ∧ Tn [B] w w' ∧ w'.heap.size = w.heap.size + 1 ∧ IsDk w' B S w.heap.size p c kb { d with dirty := fun _ => none } := by
  have HD : Hid (IsDk w B S M p c kb d) := h
  obtain ⟨-, c1, -⟩ := h.cells
  have f1 := h.blk.frozen 1
  have hB : B < w.heap.size := h.blk.lt
  clear h
  have hmm := @run_makeMap Try.prog
  go_enter Try.func48, Try.ntmps48
  go_wp2
  go_end0
  have h := HD.out
  have hlt := h.lt
  obtain ⟨n1, n2, n3⟩ := h.ne_bs
  have t1 : Tn [B] w ((w.setCell ⟨B, 1, none⟩ (.map (some w.heap.size))).alloc (.map #[] 0)) := ((Tn.refl _ _).setCell (by simp) _).alloc _
  refine ⟨rfl, t1, by simp [World.setCell], ?_⟩
  obtain ⟨cur, hc, hz⟩ := h.sure
  have hnk := h.kne
  have hm : ((w.setCell ⟨B, 1, none⟩ (.map (some w.heap.size))).alloc (.map #[] 0)).ownsMap Try.prog 3 secElem w.heap.size d.n (datum (fun _ => none) d.n) := by
    have h0 := World.ownsMap_made (w.setCell ⟨B, 1, none⟩ (.map (some w.heap.size))) Try.prog 3 secElem
    rw [show (w.setCell ⟨B, 1, none⟩ (.map (some w.heap.size))).heap.size = w.heap.size by simp [World.setCell]] at h0
    have e : datum (fun _ => none) d.n = .map [] := by
      unfold datum ents
      congr 1
      rw [List.filterMap_eq_nil_iff]
      simp
    rw [e]
    exact h0.mono (Nat.zero_le _)
  exact {
    blk := (h.blk.set 1 _).alloc _
    sure := ⟨cur, hc.tn t1 (by simp; omega), hz⟩
    map := hm
    keep := h.keep.tn t1 (fun ad ha hl => by simp; intro e; exact hnk.1 (e ▸ h.kbs ad ha hl))
    kbs := h.kbs
    kne := ⟨hnk.1, hnk.2.1, fun hh => by have := h.klt _ hh; omega⟩
    klt := fun b hb => Nat.lt_of_lt_of_le (h.klt b hb) t1.size
    n1 := h.n1
    n2 := h.n2
    secS := h.secS
    secD := fun i x hx => by cases hx
    lowD := fun i _ => rfl
    left := h.left
    knil := h.knil
    kcap := h.kcap }

set_option maxHeartbeats 2000000 in
theorem restart_any {w : World} {B : Nat} {bs : List Nat} {d : Dk} (h : Dsk w B bs d) :
    Calls Try.prog 18 #[.pointer (some ⟨B, 0, none⟩)] w fun e w' => e = .returned (.int .i64 0) ∧ Turns w w' B bs { d with down := false } := by
  have hm := made_any h
  obtain ⟨S, M, p, c, kb, rfl, h⟩ := h
  have HD : Hid (IsDk w B S M p c kb d) := h
  obtain ⟨-, -, -, c3, -, -⟩ := h.cells
  have f3 := h.blk.frozen 3
  clear h
  go_enter Try.func18, Try.ntmps18
  go_wp2_with fail
  refine hm.mono ?_
  rintro e w1 ⟨rfl, rfl⟩
  clear hm
  go_wp2
  go_ret
  have t1 : Tn [B] w1 (w1.setCell ⟨B, 3, none⟩ (.bool false)) := (Tn.refl _ _).setCell (by simp) _
  exact ⟨rfl, turns_of (IsDk.reblk HD.out t1 { d with down := false } (HD.out.blk.set 3 _) rfl rfl rfl rfl HD.out.left) t1⟩

theorem restart_any' {w : World} {B : Nat} {bs : List Nat} {d : Dk} (h : Dsk w B bs d) (hd : d.down = false) :
    Calls Try.prog 18 #[.pointer (some ⟨B, 0, none⟩)] w fun e w' => e = .returned (.int .i64 0) ∧ Turns w w' B bs d := by
  have := restart_any h
  rw [show { d with down := false } = d by cases d; simp_all] at this
  exact this

set_option maxHeartbeats 2000000 in
theorem down_any {w : World} {B : Nat} {bs : List Nat} {d : Dk} (h : Dsk w B bs d) :
    Calls Try.prog 13 #[.pointer (some ⟨B, 0, none⟩)] w fun e w' => e = .returned (.bool d.down) ∧ w' = w := by
  have hm := made_any h
  obtain ⟨S, M, p, c, kb, rfl, h⟩ := h
  obtain ⟨-, -, -, c3, -, -⟩ := h.cells
  clear h
  generalize d.down = dn at *
  go_enter Try.func13, Try.ntmps13
  go_wp2_with fail
  refine hm.mono ?_
  rintro e w1 ⟨rfl, rfl⟩
  clear hm
  go_wp2
  go_ret
  exact ⟨rfl, rfl⟩

/-- A copy of bools. -/
theorem boolinfo : (Try.prog.info? 4).map (fun i => (i.zero, i.size, i.bytes)) = some (some (.bool false), 1, 1) := by kernel_rfl

theorem bools_oneCell (ks : List Bool) : ∀ v ∈ ks.map Value.bool, v.oneCell' = true := by
  intro v hv
  simp only [List.mem_map] at hv
  obtain ⟨y, _, rfl⟩ := hv
  rfl

theorem Bls.cells {w : World} {p : Option Addr} {ks : List Bool} (h : Bls w p ks) : ∀ ad, p = some ad → ∀ j u, (ks.map Value.bool)[j]? = some u → w.cell? (ad.add j) = some u := by
  intro ad had j u hu
  have hj : j < ks.length := by
    have := (List.getElem?_eq_some_iff.1 hu).1
    simpa using this
  obtain ⟨b, o, hp, hc⟩ := h (by omega)
  rw [hp] at had
  obtain rfl := Option.some.inj had
  rw [Addr.add_lit, hc j hj]
  rw [List.getElem?_map, List.getElem?_eq_getElem hj] at hu
  simp at hu
  subst hu
  simp [List.getD, hj]

set_option maxHeartbeats 1000000 in
theorem cloneB_any (p : Option Addr) (c n : Nat) (ks : List Bool) (w : World) (hn : ks.length = n) (hx : Bls w p ks) (hl : n ≤ 140737488355328) (hp : p = none → n = 0 ∧ c = 0) :
    Calls Try.prog 50 #[.slice p n c] w fun e w' => ∃ p' c', e = .returned (.slice p' n c') ∧ Bls w' p' ks ∧ (∀ ad, p' = some ad → w.heap.size ≤ ad.block ∧ ad.block < w'.heap.size) ∧ (p' = none → n = 0 ∧ c' = 0) ∧ n ≤ c' ∧ Below w.heap.size w w' := by
  obtain ⟨i0, hi, hz0, hz1, hz2⟩ := info_parts boolinfo
  have qnil : ∀ (w : World) (a : Option Addr) (n c n' c' : Nat), (binOp .eql 31 (.slice a n c) (.slice none n' c')).run Try.prog w = .ok (.bool a.isNone) w := fun w a n c n' c' => Lib.run_eql_slice_nil w _ _ a n c n' c' Try.underlying31
  have HX : Hid (Bls w p ks) := hx
  have HN : Hid (ks.length = n) := hn
  clear hx hn
  cases p with
  | none =>
    obtain ⟨rfl, rfl⟩ := hp rfl
    go_enter Try.func50, Try.ntmps50
    go_wp2
    go_ret
    obtain rfl : ks = [] := List.eq_nil_of_length_eq_zero HN.out
    refine ⟨none, 0, rfl, Bls.nil _ _, ?_, ?_, ?_⟩
    · intro ad h
      cases h
    · intro _
      first | rfl | exact ⟨rfl, rfl⟩
    · first | exact Below.refl _ _ | exact ⟨Nat.le_refl _, Below.refl _ _⟩
  | some a =>
    clear hp
    go_enter Try.func50, Try.ntmps50
    have hmade : (w.alloc (.cells #[] 4)).ownsRow w.heap.size 4 1 (.slice (some ⟨w.heap.size, 0, none⟩) 0 0) 0 [] := World.ownsRow_made w #[] 0 (Nat.le_refl _) (by decide) rfl
    have hba : Below w.heap.size w (w.alloc (.cells #[] 4)) := (Below.refl _ _).alloc (Nat.le_refl _) _
    have HC : Hid (∀ ad, some a = some ad → ∀ j u, (ks.map Value.bool)[j]? = some u → (w.alloc (.cells #[] 4)).cell? (ad.add j) = some u) := (HX.out.below hba (Nat.le_refl _)).cells
    go_wp2_with (at_builtin; refine wpList_append_own _ rfl _ _ 31 rfl w.heap.size 4 i0 (.bool false) 1 1 Try.underlying31 hi hz0 hz1 hz2 rfl (by decide) _ 0 [] rfl hmade a n c (ks.map Value.bool) rfl (by simp [HN.out]) (HC.out a rfl) (bools_oneCell _) (by unfold maxLen; omega) (by omega) (by simp) ?_)
    intro v' w1 hown' hg _
    have hb1 : Below w.heap.size w w1 := hba.grown hg (by simp) (fun k hk => by simp [Value.ownBlock] at hk; omega)
    clear hg hba hmade HC
    go_wp2
    go_ret
    have hw : w1.ownsRow w.heap.size 4 1 v' n (ks.map Value.bool) := by simpa using hown'
    have hlen := HN.out
    rcases hw.2 with ⟨hv, hn0⟩ | ⟨g, cap, cur, hv, hbb, hgg, hle, hcm, hcur, htake⟩
    · subst hv
      subst hn0
      obtain rfl : ks = [] := List.eq_nil_of_length_eq_zero hlen
      refine ⟨none, 0, rfl, Bls.nil _ _, ?_, ?_, Nat.le_refl _, hb1⟩
      · intro ad h
        cases h
      · intro _
        exact ⟨rfl, rfl⟩
    · subst hv
      refine ⟨some ⟨g, 0, none⟩, cap, rfl, ?_, ?_, ?_, hle, hb1⟩
      · intro _
        refine ⟨g, 0, rfl, fun i hi => ?_⟩
        have := World.ownsRow.cells hw (g := g) rfl i (.bool (ks.getD i false)) (by simp [List.getD, hi])
        rw [Addr.add_lit] at this
        simpa using this
      · intro ad had
        cases had
        exact ⟨hbb, (Array.getElem?_eq_some_iff.1 hgg).1⟩
      · intro h
        cases h

end Go.Proofs.Ytpggnejifpcnmaa
