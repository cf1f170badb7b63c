/- What cut hands back tells the chunks. -/
import Derived.Test.YtcoibnlecdemcaaImCp
import Derived.Maps.OwnIn
namespace Go.Proofs.Ytcoibnlecdemcaa
open Go.RowKit Go.Shelf Go.Maps
attribute [local go_sem] Oper.semAt_some
set_option linter.unusedVariables false
set_option maxRecDepth 100000

/-- What Pairs hands back, as an iterator that may be gone through by a caller with memory of its own. -/
theorem pairs2_T {w : World} {b : Nat} {S : List Nat} {L : List St} (hL : Fi w b S L) : SeqT 8 Try.prog 50 #[.pointer (some ⟨b, 0, none⟩)] encS S (fun _ => []) (fun _ _ => True) (fun pre => pre <+: L) (fun xs => xs = L) w := by
  intro l J W hW hJ hT hY h0
  have hL' := hL.kp (KpP.of_below hW hL.lt)
  have hSW : ∀ x ∈ S, x < W.heap.size := hL'.lt
  refine (pairs2_in 8 (by omega) l b S L (fun pre A => pre <+: L ∧ W.heap.size ≤ A.heap.size ∧ ∃ T, J pre T A) (fun _ _ => False) ?_ W ?_ hL' ⟨List.nil_prefix, Nat.le_refl _, [], h0⟩).mono ?_
  · rintro pre x A ⟨hpf, hs, T, hj⟩ hx
    obtain ⟨fn, tmps, assign, body, hy, hr⟩ := hY pre x T A hj hs hx trivial (fun _ h => by cases h)
    refine ⟨fn, tmps, assign, body, hy, hr.mono ?_⟩
    rintro e W' ⟨rfl, hrd, T', hj', -⟩
    exact .inl ⟨rfl, ⟨hx, Nat.le_trans hs hrd.size, T', hj'⟩, hrd.reads⟩
  · rintro pre A o ⟨h1, h2, T, h3⟩
    refine ⟨h1, by simp; omega, T, hJ _ _ _ _ h3 ((Below.refl _ _).alloc h2 _) (fun b hb => ?_)⟩
    obtain ⟨-, ob, hob, -⟩ := hT _ _ _ h3 b hb
    exact Below.heap_alloc _ _ _ (Array.getElem?_eq_some_iff.1 hob).1
  · rintro r W' ⟨hv, h⟩
    rcases h with ⟨ys, rfl, -, -, T, hj⟩ | ⟨pre, -, h⟩
    · exact ⟨hv, _, T, rfl, hj⟩
    · exact h.elim

/-- What the caller's rounds ask. -/
def YldC (J : List Cd → List Nat → World → Prop) (S : List Nat) (L : List St) (l : Nat) (W : World) : Prop :=
  ∀ pre x T W1, J pre T W1 → W.heap.size ≤ W1.heap.size → Cc.First L (pre ++ [x]) → x.Dt W1 → (∀ b ∈ x.blk, W.heap.size ≤ b ∧ b < W1.heap.size ∧ b ∉ T) → YieldAt Fence.wide 7 Try.prog l (encC x) W1 fun e W' =>
    e = .returned (.bool true) ∧ Rd W.heap.size S T W1 W' ∧ ∃ T', J (pre ++ [x]) T' W' ∧ ∀ b ∈ T', b ∈ T ∨ b ∈ x.blk ∨ W1.heap.size ≤ b

/-- Between the rounds. -/
structure Ci (J : List Cd → List Nat → World → Prop) (L : List St) (l B : Nat) (pre : List St) (T' : List Nat) (A : World) (ys : List Cd) (T : List Nat) (cur : List St) (v : Value) : Prop where
  tq : T' = T ++ v.ownBlock.toList
  j : J ys T A
  first : Cc.First L ys
  at_ : At L ys.length pre cur
  cu : Cu B l ys.length v cur T A
  ge : ∀ b ∈ T, B + 4 ≤ b
  size : B + 2 ≤ A.heap.size

section
variable {J : List Cd → List Nat → World → Prop} {L : List St} {l B : Nat} {pre : List St} {T' : List Nat} {A A' : World} {ys : List Cd} {T : List Nat} {cur : List St} {v : Value}
theorem Ci.keep (h : Ci J L l B pre T' A ys T cur v) (hJ : ∀ pre T A A', J pre T A → Below B A A' → KpP T A A' → J pre T A') (hb : Below (B + 2) A A') (hk : KpP T' A A') : Ci J L l B pre T' A' ys T cur v := by
  have hk2 : KpP (T ++ v.ownBlock.toList) A A' := by rw [← h.tq]; exact hk
  exact ⟨h.tq, hJ _ _ _ _ h.j (hb.mono (by omega)) (fun b hm => hk2 b (List.mem_append_left _ hm)), h.first, h.at_, h.cu.tn (by have := hb.size; have := h.size; omega) hb hk2, h.ge, by have := hb.size; have := h.size; omega⟩
theorem Ci.cells (h : Ci J L l B pre T' A ys T cur v) (hT : ∀ pre T A, J pre T A → ∀ b ∈ T, B ≤ b ∧ ∃ o : Obj, A.heap[b]? = some o ∧ o.isCells = true) : ∀ b ∈ T', B + 2 + 2 ≤ b ∧ ∃ o : Obj, A.heap[b]? = some o ∧ o.isCells = true := by
  intro b hb
  rw [h.tq] at hb
  rcases List.mem_append.1 hb with hb | hb
  · exact ⟨h.ge b hb, (hT _ _ _ h.j b hb).2⟩
  · have hb' : v.ownBlock = some b := by simpa using hb
    have h1 := h.cu.row.blk hb'
    refine ⟨h1.1, ?_⟩
    rcases h.cu.row.2 with ⟨hv, -⟩ | ⟨g, cap, c0, hv, hbb, hg, -⟩
    · rw [hv] at hb'
      cases hb'
    · rw [hv] at hb'
      cases hb'
      exact ⟨_, hg, rfl⟩
end

theorem roundIn_wide {m n : Nat} {P : Program} {l : Nat} {f : FuncId} {tmps : Array Value} {assign body : Code} {w : World} {R : Ending → World → Prop} (h : RoundIn Fence.wide m P l f tmps assign body w R) : RoundIn Fence.wide n P l f tmps assign body w R :=
  ⟨h.1, fun c cs _ => h.2 c cs (room_wide _)⟩

/-- One pair more is gathered; what the caller has stays. -/
theorem more_of {J : List Cd → List Nat → World → Prop} {L : List St} {l B : Nat} {pre : List St} {A w5 : World} {ys : List Cd} {T S : List Nat} {cur : List St} {v v' : Value} {x : St}
    (hJ : ∀ pre T A A', J pre T A → Below B A A' → KpP T A A' → J pre T A') (hT : ∀ pre T A, J pre T A → ∀ b ∈ T, B ≤ b ∧ ∃ o : Obj, A.heap[b]? = some o ∧ o.isCells = true) (hS : ∀ b ∈ S, b < B)
    (j : J ys T A) (hf : Cc.First L ys) (cu : Cu B l ys.length v cur T A) (ge : ∀ b ∈ T, B + 4 ≤ b) (hs : B + 4 ≤ A.heap.size) (hat : At L ys.length (pre ++ [x]) (cur ++ [x]))
    (ho : OwnS w5 (B + 4) v' (cur ++ [x])) (hg : (A.alloc (.cells (Rk.St.cells x).toArray 52)).grownBy w5 v.ownBlock) (hq : v'.ownBlock = v.ownBlock ∨ v'.ownBlock = some (A.heap.size + 1)) :
    Bk w5 (B + 1) 71 #[.int .i64 ys.length, v, .bool false] ∧ Rd (B + 2) S (T ++ v.ownBlock.toList) A (w5.setCell ⟨B + 1, 1, none⟩ v') ∧
      ∃ T'', (∃ ys T cur v, Ci J L l B (pre ++ [x]) T'' (w5.setCell ⟨B + 1, 1, none⟩ v') ys T cur v) ∧ ∀ b ∈ T'', b ∈ T ++ v.ownBlock.toList ∨ b ∈ ([] : List Nat) ∨ A.heap.size ≤ b := by
  have hTl : ∀ b ∈ T, b < A.heap.size := fun b hb => by obtain ⟨-, o, ho, -⟩ := hT _ _ _ j b hb; exact (Array.getElem?_eq_some_iff.1 ho).1
  obtain ⟨h1, h2, h3, h4, h5, h6⟩ := cu.app hs hS hTl ho hg hq
  have hz : (w5.setCell ⟨B + 1, 1, none⟩ v').heap.size = w5.heap.size := by simp [World.setCell]
  have hgs := hg.size
  simp only [World.size_alloc] at hgs
  refine ⟨h1, ⟨h3.size, h5, fun b hb hl hn => h6 b hl (by omega) (fun e => hn (List.mem_append_right _ (by simp [e])))⟩, T ++ v'.ownBlock.toList, ⟨ys, T, cur ++ [x], v', rfl, hJ _ _ _ _ j h3 h4, hf, hat, h2, ge, by omega⟩, fun b hb => ?_⟩
  rcases List.mem_append.1 hb with hb | hb
  · exact .inl (List.mem_append_left _ hb)
  · have hb' : v'.ownBlock = some b := by simpa using hb
    rcases hq with hq | hq
    · exact .inl (List.mem_append_right _ (by rw [hq] at hb'; simp [hb']))
    · rw [hq] at hb'
      simp at hb'
      exact .inr (.inr (by omega))

set_option maxHeartbeats 16000000 in
theorem cut1_in {l pB b : Nat} {S : List Nat} {L : List St} {J : List Cd → List Nat → World → Prop} {W : World} (hL64 : L.length ≤ 4398046511104)
    (hJ : ∀ pre T A A', J pre T A → Below W.heap.size A A' → KpP T A A' → J pre T A')
    (hT : ∀ pre T A, J pre T A → ∀ b ∈ T, W.heap.size ≤ b ∧ ∃ o : Obj, A.heap[b]? = some o ∧ o.isCells = true)
    (hY : YldC J S L l W) (h0 : J [] [] W)
    (kp : Bk W pB 65 #[.func (.func 50) #[] #[.pointer (some ⟨b, 0, none⟩)]]) (hF : Fi W b S L) :
    CallsIn Fence.wide 8 Try.prog 72 #[.func (.yield l) #[] #[], .pointer (some ⟨pB, 0, none⟩)] W fun e W' => (∃ v, e = .returned v) ∧ ∃ xs T, Cc.Whole L xs ∧ J xs T W' := by
  refine callsIn_wide.2 ((callsIn_wide (n := 9)).1 ?_)
  refine callsIn_of_wp_marks Try.func72 rfl trivial ?_ rfl
  simp only [Try.ntmps72, List.size_toArray, List.length_cons, List.length_nil, Nat.reduceAdd, Nat.reduceSub, Array.replicate_succ, Array.replicate_zero, List.push_toArray, List.append_toArray, List.nil_append, List.cons_append]
  obtain ⟨B, hB⟩ : ∃ B, W.heap.size = B := ⟨_, rfl⟩
  obtain ⟨W2, hW2⟩ : ∃ W2, (W.alloc (.cells #[.func (.yield l) #[] #[]] 106)).alloc (.cells #[.int .i64 0, .slice none 0 0, .bool false] 71) = W2 := ⟨_, rfl⟩
  have hb2 : Below W.heap.size W W2 := by rw [← hW2]; exact ((Below.refl _ _).alloc (Nat.le_refl _) _).alloc (by simp) _
  have hz2 : W2.heap.size = B + 2 := by rw [← hW2, ← hB]; simp
  have hcu : Cu B l 0 (.slice none 0 0) [] [] W2 := by
    refine ⟨?_, ?_, Own.nil _ _ _, fun b h => by cases h⟩
    · rw [← hW2, ← hB]; exact (Bk.new _ _ _).alloc _
    · rw [← hW2, ← hB]; have := Bk.new (W.alloc (.cells #[.func (.yield l) #[] #[]] 106)) 71 #[.int .i64 0, .slice none 0 0, .bool false]; simpa using this
  have hF2 : Fi W2 b S L := hF.kp (KpP.of_below hb2 hF.lt)
  have hSW : ∀ x ∈ S, x < B := by rw [← hB]; exact hF.lt
  have p0 : W2.cell? ⟨pB, 0, none⟩ = some (.func (.func 50) #[] #[.pointer (some ⟨b, 0, none⟩)]) := (kp.below hb2 kp.lt).cell 0
  have hj2 : J [] [] W2 := hJ _ _ _ _ h0 hb2 (fun _ h => by cases h)
  have hst := pairs2_T hF2
  obtain ⟨i0, hi, hz0, hz1, hz2'⟩ := info_parts stinfo
  have HY : Hid (YldC J S L l W) := hY
  have HJ : Hid (∀ pre T A A', J pre T A → Below B A A' → KpP T A A' → J pre T A') := by rw [← hB]; exact hJ
  have HT : Hid (∀ pre T A, J pre T A → ∀ b ∈ T, B ≤ b ∧ ∃ o : Obj, A.heap[b]? = some o ∧ o.isCells = true) := by rw [← hB]; exact hT
  have HF2 : Hid (Fi W2 b S L) := hF2
  clear kp hF hb2 h0 hY hJ hT hF2
  gi_wp2_with fail
  clear hW2
  refine wpIn_rangeTb ?A (gf := 50) (lb := #[.pointer (some ⟨b, 0, none⟩)]) rfl (enters_of Try.func50 (by kernel_rfl) rfl) hst (Below.refl _ _) (fun _ => rfl) HF2.out.lt (fun _ _ _ _ _ => trivial)
    (fun pre T' A => ∃ ys T cur v, Ci J L l B pre T' A ys T cur v) ?hI ?hT ?h0
    (fun x T' bx A => B + 4 ≤ bx ∧ bx ∉ T' ∧ Bk A bx 52 #[.string x.key, .string x.val, .int .i64 x.ts])
    ?hAx ?assign ?body ?done
  case hI =>
    rintro pre T' A A' ⟨ys, T, cur, v, h⟩ hb hk
    rw [hz2] at hb
    exact ⟨ys, T, cur, v, h.keep HJ.out hb hk⟩
  case hT =>
    rintro pre T' A ⟨ys, T, cur, v, h⟩ b hb
    rw [hz2]
    exact h.cells HT.out b hb
  case h0 => exact ⟨[], [], [], .slice none 0 0, rfl, hj2, Cc.First.nil L, At.start L, hcu, (fun _ h => by cases h), by omega⟩
  case hAx =>
    rintro x T' bx A A' ⟨h1, h2, h3⟩ hk
    exact ⟨h1, h2, (hk bx (by omega)).trans h3⟩
  case assign =>
    rintro l2 pre x T' A K ⟨ys, T, cur, v, h⟩ hsz hK
    have hcl := h.cells HT.out
    gi_wp2
    obtain ⟨bx, hbx⟩ : ∃ bx, A.heap.size = bx := ⟨_, rfl⟩
    have kx : Bk (A.alloc (.cells #[.string x.key, .string x.val, .int .i64 x.ts] 52)) bx 52 #[.string x.key, .string x.val, .int .i64 x.ts] := by rw [← hbx]; exact Bk.new _ _ _
    have hlt : ∀ b ∈ T', b < A.heap.size := fun b hb => by obtain ⟨-, o, ho, -⟩ := hcl b hb; exact (Array.getElem?_eq_some_iff.1 ho).1
    have hb1 : Below A.heap.size A (A.alloc (.cells #[.string x.key, .string x.val, .int .i64 x.ts] 52)) := (Below.refl _ _).alloc (Nat.le_refl _) _
    have hsl := HF2.out.lt
    rw [hbx]
    refine hK bx _ ⟨hb1.size, fun b hb => hb1.block b (by have := hsl b hb; omega), fun b _ hb _ => hb1.block b hb⟩ ⟨ys, T, cur, v, h.keep HJ.out (hb1.mono (by omega)) (fun b hb => hb1.block b (hlt b hb))⟩ ⟨by omega, fun hm => by have := hlt bx hm; omega, kx⟩
  case body =>
    rintro l2 pre x T' bx A ⟨ys, T, cur, v, h⟩ hsz ⟨hbx, hbT, kx⟩ hsp - -
    obtain ⟨p, c, rfl, hdt⟩ := h.cu.dt
    have HH : Hid (Ci J L l B pre T' A ys T cur (.slice p cur.length c)) := h
    have HDT : Hid (∀ b, Cd.Dt ⟨⟨(ys.length : Int), p, cur.length, c, b⟩, cur⟩ A) := fun b => hdt b
    have HKX : Hid (Bk A bx 52 #[.string x.key, .string x.val, .int .i64 x.ts] ∧ B + 4 ≤ bx ∧ bx ∉ T') := ⟨kx, hbx, hbT⟩
    have HSP : Hid (pre ++ [x] <+: L) := hsp
    have HSZ : Hid (B + 4 ≤ A.heap.size) := by rw [hz2] at hsz; exact hsz
    have y0 : A.cell? ⟨B, 0, none⟩ = some (.func (.yield l) #[] #[]) := h.cu.yb.cell 0
    have c0 : A.cell? ⟨B + 1, 0, none⟩ = some (.int .i64 ys.length) := h.cu.cb.cell 0
    have c1 : A.cell? ⟨B + 1, 1, none⟩ = some (.slice p cur.length c) := h.cu.cb.cell 1
    have c2 : A.cell? ⟨B + 1, 2, none⟩ = some (.bool false) := h.cu.cb.cell 2
    have d0 : A.cell? ⟨bx, 0, none⟩ = some (.string x.key) := kx.cell 0
    have d1 : A.cell? ⟨bx, 1, none⟩ = some (.string x.val) := kx.cell 1
    have d2 : A.cell? ⟨bx, 2, none⟩ = some (.int .i64 x.ts) := kx.cell 2
    by_cases h16 : cur.length = 16
    · obtain ⟨g1, g2, g3⟩ := h.at_.full h16 x hsp
      have HFUL : Hid (At L (ys.length + 1) (pre ++ [x]) [x] ∧ ys.length < Cc.nch L ∧ ((ys.length : Int), cur, false) = Cc.ck L ys.length) := ⟨g1, g2, g3⟩
      have hk64 : (ys.length : Int) ≤ 4398046511104 := by have := h.at_.len; have := h.at_.pf.length_le; omega
      have hblk : ∀ g ∈ Cd.blk ⟨⟨(ys.length : Int), p, cur.length, c, false⟩, cur⟩, B + 4 ≤ g ∧ g < A.heap.size ∧ g ∉ T ∧ g ∈ T' := fun g hg => by
        have hg' : (Value.slice p cur.length c).ownBlock = some g := by simpa [Cd.blk] using hg
        have := h.cu.row.blk hg'
        exact ⟨this.1, this.2, fun hm => (h.cu.sep g hm).2.2 hg', by rw [h.tq]; exact List.mem_append_right _ (by simp [hg'])⟩
      have HBLK : Hid _ := hblk
      obtain ⟨fn, tmps, assign, bdy, hy, hR⟩ := HY.out ys ⟨⟨(ys.length : Int), p, cur.length, c, false⟩, cur⟩ T A h.j (by rw [hB]; have := HSZ.out; omega) (h.first.snoc g2 _ g3) (HDT.out false) (fun g hg => ⟨by rw [hB]; have := (hblk g hg).1; omega, (hblk g hg).2.1, (hblk g hg).2.2.1⟩)
      simp only [encC, Ck.v] at hy
      have h16i : ((cur.length : Int) == 16) = true := by simp; omega
      have H16 : Hid (cur.length = 16) := h16
      clear h16
      clear h hdt kx hsp g1 g2 g3 hblk
      gi_wp2
      refine (roundIn_wide hR).mono ?_
      rintro e A2 ⟨rfl, hrd, T2, hj2, hT2⟩
      rw [hB] at hrd
      obtain ⟨q1, q2⟩ := HH.out.cu.gone hrd.rest
      have hTT : ∀ g ∈ T2, B + 4 ≤ g ∧ (g ∈ T' ∨ A.heap.size ≤ g) := fun g hg => by
        rcases hT2 g hg with h1 | h1 | h1
        · exact ⟨HH.out.ge g h1, .inl (by rw [HH.out.tq]; exact List.mem_append_left _ h1)⟩
        · exact ⟨(HBLK.out g h1).1, .inl (HBLK.out g h1).2.2.2⟩
        · exact ⟨by have := HSZ.out; omega, .inr h1⟩
      have HTT : Hid _ := hTT
      have nb : bx ∉ T := fun hm => HKX.out.2.2 (by rw [HH.out.tq]; exact List.mem_append_left _ hm)
      have kx2 : Bk A2 bx 52 #[.string x.key, .string x.val, .int .i64 x.ts] := (hrd.rest bx (by have := HKX.out.2.1; omega) HKX.out.1.lt nb).trans HKX.out.1
      have r3 := ((q2.set 0 (.int .i64 ((ys.length : Int) + 1))).set 1 (.slice none 0 0)).set 2 (.bool false)
      obtain ⟨A3, hA3⟩ : ∃ A3, ((A2.setCell ⟨B + 1, 0, none⟩ (.int .i64 ((ys.length : Int) + 1))).setCell ⟨B + 1, 1, none⟩ (.slice none 0 0)).setCell ⟨B + 1, 2, none⟩ (.bool false) = A3 := ⟨_, rfl⟩
      rw [hA3] at r3
      have hz3 : A3.heap.size = A2.heap.size := by rw [← hA3]; simp [World.setCell]
      have ho3 : ∀ g, g ≠ B + 1 → A3.heap[g]? = A2.heap[g]? := fun g hg => by
        rw [← hA3]
        exact (Below.heap_setCell _ _ _ _ hg).trans ((Below.heap_setCell _ _ _ _ hg).trans (Below.heap_setCell _ _ _ _ hg))
      have hb3 : Below B A2 A3 := by
        rw [← hA3]
        exact (((Below.refl _ _).setCell (p := ⟨B + 1, 0, none⟩) (by show B ≤ B + 1; omega) _).setCell (p := ⟨B + 1, 1, none⟩) (by show B ≤ B + 1; omega) _).setCell (p := ⟨B + 1, 2, none⟩) (by show B ≤ B + 1; omega) _
      have hlen2 : (ys ++ [(⟨⟨(ys.length : Int), p, cur.length, c, false⟩, cur⟩ : Cd)]).length = ys.length + 1 := by simp
      have cu3 : Cu B l ((ys ++ [(⟨⟨(ys.length : Int), p, cur.length, c, false⟩, cur⟩ : Cd)]).length : Int) (.slice none 0 0) [] T2 A3 := by
        refine ⟨(ho3 _ (by omega)).trans q1, ?_, Own.nil _ _ _, fun g hg => ⟨by have := (hTT g hg).1; omega, by have := (hTT g hg).1; omega, by simp [Value.ownBlock]⟩⟩
        rw [hlen2]
        simpa using r3
      have hszr := hrd.size
      have j3 : J (ys ++ [⟨⟨(ys.length : Int), p, cur.length, c, false⟩, cur⟩]) T2 A3 := HJ.out _ _ _ _ hj2 hb3 (fun g hg => ho3 g (by have := (hTT g hg).1; omega))
      have hat3 : At L (ys ++ [(⟨⟨(ys.length : Int), p, cur.length, c, false⟩, cur⟩ : Cd)]).length (pre ++ [x]) ([] ++ [x]) := by rw [hlen2]; exact HFUL.out.1
      have hf3 := HH.out.first.snoc HFUL.out.2.1 ⟨⟨(ys.length : Int), p, cur.length, c, false⟩, cur⟩ HFUL.out.2.2
      have hs3 : B + 4 ≤ A3.heap.size := by have := HSZ.out; omega
      have HC3 : Hid (J (ys ++ [⟨⟨(ys.length : Int), p, cur.length, c, false⟩, cur⟩]) T2 A3 ∧ Cc.First L (ys ++ [⟨⟨(ys.length : Int), p, cur.length, c, false⟩, cur⟩]) ∧ Cu B l ((ys ++ [(⟨⟨(ys.length : Int), p, cur.length, c, false⟩, cur⟩ : Cd)]).length : Int) (.slice none 0 0) [] T2 A3 ∧ At L (ys ++ [(⟨⟨(ys.length : Int), p, cur.length, c, false⟩, cur⟩ : Cd)]).length (pre ++ [x]) ([] ++ [x]) ∧ B + 4 ≤ A3.heap.size) := ⟨j3, hf3, cu3, hat3, hs3⟩
      have HRD : Hid (Rd (B + 2) S T' A A3) := ⟨by omega, hrd.reads.t (fun g hg => ho3 g (by have := hSW g hg; omega)), fun g h1 h2 h3 => (ho3 g (by omega)).trans (hrd.rest g (by omega) h2 (fun hm => h3 (by rw [HH.out.tq]; exact List.mem_append_left _ hm)))⟩
      have HROW : Hid (OwnS A3 (B + 4) (.slice none 0 0) []) := cu3.row
      have HSZ : Hid (B + 4 ≤ A3.heap.size) := hs3
      have kx3 : Bk A3 bx 52 #[.string x.key, .string x.val, .int .i64 x.ts] := (ho3 bx (by have := HKX.out.2.1; omega)).trans kx2
      have y0 : A2.cell? ⟨B, 0, none⟩ = some (.func (.yield l) #[] #[]) := q1.cell 0
      have c0 : A2.cell? ⟨B + 1, 0, none⟩ = some (.int .i64 ys.length) := q2.cell 0
      have c1 : A2.cell? ⟨B + 1, 1, none⟩ = some (.slice p cur.length c) := q2.cell 1
      have c2 : A2.cell? ⟨B + 1, 2, none⟩ = some (.bool false) := q2.cell 2
      have f0 := q2.frozen 0
      have k1 := q2.set 0 (.int .i64 ((ys.length : Int) + 1))
      have f1 := k1.frozen 1
      have c1' := k1.cell 1
      have k2 := k1.set 1 (.slice none 0 0)
      have f2 := k2.frozen 2
      have c2' := k2.cell 2
      have d1 : A3.cell? ⟨B + 1, 1, none⟩ = some (.slice none 0 0) := r3.cell 1
      have d3 : A3.cell? ⟨bx, 0, none⟩ = some (.string x.key) := kx3.cell 0
      have d4 : A3.cell? ⟨bx, 1, none⟩ = some (.string x.val) := kx3.cell 1
      have d5 : A3.cell? ⟨bx, 2, none⟩ = some (.int .i64 x.ts) := kx3.cell 2
      have HZ3 : Hid (A3.heap.size = A2.heap.size ∧ A.heap.size ≤ A2.heap.size) := ⟨hz3, hszr⟩
      clear hrd hj2 hT2 hTT q1 q2 kx2 r3 hb3 cu3 j3 hat3 hf3 hs3 k1 k2 hR hy hz3 hszr
      gi_wp2_with (gi_at_builtin; refine wpListIn_append_own_at _ rfl _ _ 38 rfl (B + 4) 52 i0 _ 3 40 Try.underlying38 hi hz0 hz1 hz2' rfl (by decide) _ _ _ rfl (World.ownsRow.alloc HROW.out _) ⟨A3.heap.size, 0, none⟩ 1 1 (Rk.St.cells x) rfl rfl ((els_one stknd A3 52 x).news stknd _ rfl) (stknd.one x) (by unfold maxLen; first | omega | (simp; done) | (simp; omega)) (by first | omega | (simp; done) | (simp; omega)) (by have := HSZ.out; simp; omega) ?_; intro v' w5 hown' hgrow hnil hq; obtain ⟨g', cap', rfl⟩ := ownsRow_succ hown'; obtain ⟨m1, m2, m3⟩ := more_of HJ.out HT.out hSW HC3.out.1 HC3.out.2.1 HC3.out.2.2.1 (fun g hg => (HTT.out g hg).1) HC3.out.2.2.2.2 HC3.out.2.2.2.1 (by unfold OwnS Own; simp only [List.nil_append]; rw [flat_single]; exact hown') hgrow (by rw [World.size_alloc] at hq; exact hq); have e1 := m1.cell 1; have f1 := m1.frozen 1)
      rw [hz2]
      obtain ⟨T3, hC, hT3⟩ := m3
      obtain ⟨z1, z2⟩ := HZ3.out
      refine ⟨⟨Nat.le_trans HRD.out.size m2.size, HRD.out.reads.t m2.reads, fun g h1 h2 h3 => (m2.rest g h1 (by omega) (fun hm => ?_)).trans (HRD.out.rest g h1 h2 h3)⟩, T3, hC, fun g hg => ?_⟩
      · have hm' : g ∈ T2 := by simpa [Value.ownBlock] using hm
        rcases (HTT.out g hm').2 with h | h
        · exact h3 h
        · omega
      · rcases hT3 g hg with h1 | h1 | h1
        · have h1' : g ∈ T2 := by simpa [Value.ownBlock] using h1
          rcases (HTT.out g h1').2 with h | h
          · exact .inl h
          · exact .inr (.inr h)
        · cases h1
        · exact .inr (.inr (by omega))
    · have hne : ((cur.length : Int) == 16) = false := by simp; omega
      have hne2 : ¬ (cur.length : Int) = 16 := by omega
      have hle := h.at_.le
      have hat := h.at_.more (by omega) x hsp
      have HAT : Hid (At L ys.length (pre ++ [x]) (cur ++ [x])) := hat
      have HROW : Hid (OwnS A (B + 4) (.slice p cur.length c) cur) := h.cu.row
      clear h hdt kx hsp hat
      gi_wp2_with (gi_at_builtin; refine wpListIn_append_own_at _ rfl _ _ 38 rfl (B + 4) 52 i0 _ 3 40 Try.underlying38 hi hz0 hz1 hz2' rfl (by decide) _ _ _ rfl (World.ownsRow.alloc HROW.out _) ⟨A.heap.size, 0, none⟩ 1 1 (Rk.St.cells x) rfl rfl ((els_one stknd A 52 x).news stknd _ rfl) (stknd.one x) (by unfold maxLen; first | omega | (simp; done) | (simp; omega)) (by first | omega | (simp; done) | (simp; omega)) (by have := HSZ.out; simp; omega) ?_; intro v' w5 hown' hgrow hnil hq; obtain ⟨g', cap', rfl⟩ := ownsRow_succ hown'; obtain ⟨m1, m2, m3⟩ := more_of HJ.out HT.out hSW HH.out.j HH.out.first HH.out.cu HH.out.ge HSZ.out HAT.out (by unfold OwnS Own; rw [flat_append, flat_single, List.length_append]; exact hown') hgrow (by rw [World.size_alloc] at hq; exact hq); have e1 := m1.cell 1; have f1 := m1.frozen 1)
      rw [hz2, HH.out.tq]
      exact ⟨m2, m3⟩
  case done =>
    rintro D xs T' A hD hxs ⟨ys, T, cur, v, h⟩ hsz hK
    subst hxs
    rw [hz2] at hD hsz
    obtain ⟨p, c, rfl, hdt⟩ := h.cu.dt
    obtain ⟨g1, g2⟩ := h.at_.last
    have r3 := h.cu.cb.set 2 (.bool true)
    obtain ⟨A1, hA1⟩ : ∃ A1, A.setCell ⟨B + 1, 2, none⟩ (.bool true) = A1 := ⟨_, rfl⟩
    rw [hA1] at r3
    have hz1 : A1.heap.size = A.heap.size := by rw [← hA1]; simp [World.setCell]
    have ho1 : ∀ g, g ≠ B + 1 → A1.heap[g]? = A.heap[g]? := fun g hg => by rw [← hA1]; exact Below.heap_setCell _ _ _ _ hg
    have hb1 : Below B A A1 := by rw [← hA1]; exact (Below.refl _ _).setCell (p := ⟨B + 1, 2, none⟩) (by show B ≤ B + 1; omega) _
    have hblk : ∀ g ∈ Cd.blk ⟨⟨(ys.length : Int), p, cur.length, c, true⟩, cur⟩, B + 4 ≤ g ∧ g < A.heap.size ∧ g ∉ T := fun g hg => by
      have hg' : (Value.slice p cur.length c).ownBlock = some g := by simpa [Cd.blk] using hg
      have := h.cu.row.blk hg'
      exact ⟨this.1, this.2, fun hm => (h.cu.sep g hm).2.2 hg'⟩
    have hdt1 : Cd.Dt ⟨⟨(ys.length : Int), p, cur.length, c, true⟩, cur⟩ A1 := Cd.Dt.kp (hdt true) (fun g hg => ho1 g (by have := (hblk g hg).1; omega))
    have j1 : J ys T A1 := HJ.out _ _ _ _ h.j hb1 (fun g hg => ho1 g (by have := h.ge g hg; omega))
    have hfs := h.first.snoc (by omega) ⟨⟨(ys.length : Int), p, cur.length, c, true⟩, cur⟩ g2
    obtain ⟨fn, tmps, assign, bdy, hy, hR⟩ := HY.out ys ⟨⟨(ys.length : Int), p, cur.length, c, true⟩, cur⟩ T A1 j1 (by rw [hB]; omega) hfs hdt1 (fun g hg => ⟨by rw [hB]; have := (hblk g hg).1; omega, by rw [hz1]; exact (hblk g hg).2.1, (hblk g hg).2.2⟩)
    simp only [encC, Ck.v] at hy
    have c2 : A.cell? ⟨B + 1, 2, none⟩ = some (.bool false) := h.cu.cb.cell 2
    have f2 := h.cu.cb.frozen 2
    have y0 : A1.cell? ⟨B, 0, none⟩ = some (.func (.yield l) #[] #[]) := (show Bk A1 B _ _ from (ho1 _ (by omega)).trans h.cu.yb).cell 0
    have c0 : A1.cell? ⟨B + 1, 0, none⟩ = some (.int .i64 ys.length) := r3.cell 0
    have c1 : A1.cell? ⟨B + 1, 1, none⟩ = some (.slice p cur.length c) := r3.cell 1
    have c3 : A1.cell? ⟨B + 1, 2, none⟩ = some (.bool true) := r3.cell 2
    have HE : Hid (∀ g ∈ T, B + 4 ≤ g) := h.ge
    have HBLK : Hid _ := hblk
    have HZ : Hid (A1.heap.size = A.heap.size ∧ B + 4 ≤ A.heap.size) := ⟨hz1, by omega⟩
    have HW : Hid (Cc.Whole xs (ys ++ [⟨⟨(ys.length : Int), p, cur.length, c, true⟩, cur⟩])) := hfs.whole (by simp; omega)
    have hK1 : A1.heap[D]? = some (.deferred (some [])) := (ho1 D (by omega)).trans hK
    have HK1 : Hid (A1.heap[D]? = some (.deferred (some [])) ∧ D = B + 2) := ⟨hK1, hD⟩
    clear h hdt g1 g2 r3 hz1 ho1 hb1 hblk hdt1 j1 hfs hK hK1
    gi_wp2
    refine (roundIn_wide hR).mono ?_
    rintro e A2 ⟨rfl, hrd, T2, hj2, hT2⟩
    rw [hB] at hrd
    obtain ⟨hk1, hk2⟩ := HK1.out
    have hK2 : A2.heap[D]? = some (.deferred (some [])) := (hrd.rest D (by omega) (Array.getElem?_eq_some_iff.1 hk1).1 (fun hm => by have := HE.out D hm; omega)).trans hk1
    have nD : D ∉ T2 := fun hm => by
      rcases hT2 D hm with h1 | h1 | h1
      · have := HE.out D h1
        omega
      · have := (HBLK.out D h1).1
        omega
      · have := HZ.out
        omega
    have j4 : J (ys ++ [⟨⟨(ys.length : Int), p, cur.length, c, true⟩, cur⟩]) T2 (A2.putObj D (.deferred none)) := HJ.out _ _ _ _ hj2 ⟨rfl, rfl, rfl, by simp, fun k hk => World.putObj_heap_other (by omega)⟩ (fun g hg => World.putObj_heap_other (fun e => nD (by rw [← e]; exact hg)))
    rw [hk2] at hK2 j4
    gi_wp2
    refine ⟨by simp, .inl ⟨_, _, rfl, run_takeDeferred hK2, ?_⟩⟩
    exact ⟨_, results_none rfl _ _ _, ⟨_, rfl⟩, _, T2, HW.out, j4⟩
end Go.Proofs.Ytcoibnlecdemcaa
