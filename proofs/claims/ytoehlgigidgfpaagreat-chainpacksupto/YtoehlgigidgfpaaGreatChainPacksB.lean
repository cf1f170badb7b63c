/- The draft's link. -/
import Derived.Test.YtoehlgigidgfpaaGreatChainPacksA
import Derived.Test.YtoehlgigidgfpaaGreatDlS
import Derived.Test.YtoehlgigidgfpaaGreatPgFe
import Derived.Test.YtoehlgigidgfpaaGreatPgKr
import Derived.Test.YtoehlgigidgfpaaGreatItG
import Derived.Test.YtoehlgigidgfpaaGreatPgB
import Derived.Test.YtoehlgigidgfpaaGreatPgSm
import Derived.Test.YtoehlgigidgfpaaGreatPgFd
import Derived.Test.YtoehlgigidgfpaaGreatPgPu
import Derived.Test.YtoehlgigidgfpaaGreatPgRm
import Derived.Lib.SlicesCompact
import Derived.Lib.RowBridge
import Derived.Sort.Walk0
import Derived.Shelf.Spec.SearchS
import Derived.Test.YtoehlgigidgfpaaGreatRgP
import Derived.StillTailTactics
import Derived.Test.YtoehlgigidgfpaaGreatMem
import Derived.Handy
import Derived.BigQuiet
import Derived.Laws.OwnMore
import Derived.Tactics2
import Derived.WalkSmall
import Derived.Deep.LoopGhost
import Derived.Sort.EncStr
import Derived.Shelf.SortM.Plain
import Derived.Shelf.SortM.SortNone
import Derived.Shelf.SlicesG.CompactS
import Derived.Shelf.Bits.Mul64
import Derived.Ground.NamesProg
import Derived.Ground.SlgmProg
import Derived.Ground.SlgnProg
import Derived.Ground.Names2Prog
import Derived.Test.YtoehlgigidgfpaaGreatProg
import Derived.BigRegion
import Derived.Deep.RegionHeld3
import Derived.Shelf.RegionOpen
import Derived.Laws.CopyRow
import Derived.Laws.IdiomCopy
namespace Go.Proofs.YtoehlgigidgfpaaGreat
open Go.RowKit Go.Shelf
attribute [local go_sem] Oper.semAt_some
set_option linter.unusedVariables false
set_option linter.unusedSimpArgs false
set_option maxRecDepth 100000
set_option linter.unusedSectionVars false
variable [Inhabited Nod]

def blkEnd (id : Nat) (Q : Exit → Act → World → Prop) : Exit → Act → World → Prop
  | .normal, a, w => Q .normal a w
  | .exit i, a, w => i = id ∧ Q .normal a w
  | .ret, a, w => Q .ret a w
  | .panic ch, a, w => Q (.panic ch) a w
  | _, _, _ => False

theorem wpAt_blockN {P : Program} {f : FuncId} {Q : Exit → Act → World → Prop} {a : Act} {w : World} {id : Nat} {c : Code} (h : wpAt f P c (blkEnd id Q) a w) : wpAt f P (Code.block id c) Q a w := by
  intro b k cs hro hb
  have hr : Fence.wide.room (cs.length + 1 + 0) := room_wide _
  have hF : Fence.wide.fn b.fn := trivial
  have hin : (lone (b.atR a (.code (.block id c) :: k)) cs w).fenced P Fence.wide := fenced_calm hF hr rfl
  obtain ⟨e, a₁, w₁, hq, harr⟩ := h b (.inBlock id :: k) cs hro hb
  cases e with
  | normal =>
    have hs : StepsIn (Machine.fenced P Fence.wide) P _ (lone (b.atR a₁ (.inBlock id :: k)) cs w₁) := harr
    exact ⟨.normal, a₁, w₁, hq, .head hin stepR_block (hs.trans (.one (fenced_calm hF hr rfl) stepR_inBlock))⟩
  | exit i =>
    obtain ⟨rfl, hq⟩ := hq
    exact ⟨.normal, a₁, w₁, hq, .head hin stepR_block (harr.1 k (by simp [exitTo]))⟩
  | panic ch =>
    obtain ⟨todo, hs⟩ := harr
    exact ⟨.panic ch, a₁, w₁, hq, todo, .head hin stepR_block hs⟩
  | ret => exact ⟨.ret, a₁, w₁, hq, ⟨fun hr => let ⟨todo, hs⟩ := harr.1 hr; ⟨todo, .head hin stepR_block hs⟩, fun hr => let ⟨k₁, hs⟩ := harr.2 hr; ⟨k₁, .head hin stepR_block hs⟩⟩⟩
  | goto l => exact hq.elim
  | outgrown => exact hq.elim

/-- The results are written. -/
theorem Fi.found {w W W' : World} {pre : List (Hd × Nod)} {v1 v2 : Value} {fb : Bool} (h : Fi w W pre v1 v2 fb) (hW : W' = (((W.setCell ⟨w.heap.size + 1, 0, none⟩ v1).setCell ⟨w.heap.size + 1 + 1, 0, none⟩ v2).setCell ⟨w.heap.size + 1 + 1 + 1, 0, none⟩ (.bool true)).drew) : Fi w W' pre v1 v2 true ∧ KeepsOthers W W' := by
  have ht : Tn [w.heap.size + 1, w.heap.size + 1 + 1, w.heap.size + 1 + 1 + 1] W W' := by
    rw [hW]
    exact ((((Tn.refl _ _).setCell (.inl (by simp)) _).setCell (.inl (by simp)) _).setCell (.inl (by simp)) _).drew
  have hlt := h.two.lt
  have hnot : ∀ x ∈ [w.heap.size + 1, w.heap.size + 1 + 1, w.heap.size + 1 + 1 + 1], v1.ownBlock ≠ some x ∧ v2.ownBlock ≠ some x := by
    intro x hx
    simp only [List.mem_cons, List.not_mem_nil, or_false] at hx
    exact ⟨fun e => by have := (hlt x (mem_own2.2 (.inl e))).1; omega, fun e => by have := (hlt x (mem_own2.2 (.inr e))).1; omega⟩
  have n1 : w.heap.size + 1 ≠ w.heap.size + 1 + 1 := by omega
  have n2 : w.heap.size + 1 ≠ w.heap.size + 1 + 1 + 1 := by omega
  have n3 : w.heap.size + 1 + 1 ≠ w.heap.size + 1 + 1 + 1 := by omega
  refine ⟨{
    bi := h.bi.tn ht (fun hm => by simp only [List.mem_cons, List.not_mem_nil, or_false] at hm; omega)
    b1 := by rw [hW]; exact (((h.b1.set 0 v1).other n1 _).other n2 _).drew
    b2 := by rw [hW]; exact (((h.b2.other n1.symm _).set 0 v2).other n3 _).drew
    b3 := by rw [hW]; exact (((h.b3.other n2.symm _).other n3.symm _).set 0 _).drew
    two := h.two.tn ht hnot
    below := h.below.trans (ht.below h.below.size (fun x hx => by simp only [List.mem_cons, List.not_mem_nil, or_false] at hx; omega))
    size := Nat.le_trans h.size ht.size }, keeps_tn ht (fun b hb => ?_)⟩
  simp only [List.mem_cons, List.not_mem_nil, or_false] at hb
  rcases hb with rfl | rfl | rfl
  · exact ⟨_, h.b1, rfl⟩
  · exact ⟨_, h.b2, rfl⟩
  · exact ⟨_, h.b3, rfl⟩

set_option maxHeartbeats 16000000 in
theorem find_good {w : World} {hB mB gB B : Nat} {uv fv : Value} {fr : List Nat} {a : Ar Nod} {s g : Int} {L : List Nod} {most : Nat} (hL : ChnN a s g L) (hmost : L.length ≤ most) (hm2 : most ≤ 65536)
    (hbh : Bk w hB 31 #[.int .i64 s, .int .i64 g]) (hE : Wk w B gB mB uv fv fr a most) :
    Calls Tryz.prog 94 #[.func (.func 116) #[] #[.pointer (some ⟨hB, 0, none⟩), .pointer (some ⟨mB, 0, none⟩), .pointer (some ⟨gB, 0, none⟩)], .func (.func 96) #[] #[]] w fun r w' => ∃ v1 v2, r = .returned (.tuple #[v1, v2, .bool true]) ∧ TwN w.heap.size w' v1 v2 (hdn s g L) L ∧ Below w.heap.size w w' := by
  refine calls_of_wpAt Tryz.func94 rfl ?_
  simp only [Tryz.ntmps94, List.size_toArray, List.length_cons, List.length_nil, Nat.reduceAdd, Nat.reduceSub, Array.replicate_succ, Array.replicate_zero, List.push_toArray, List.append_toArray, List.nil_append, List.cons_append]
  have eg : ∀ args w, (callFunc 96 args).run Tryz.prog w = .ok (.enter 96 args) w := enters_of Tryz.func96 (by kernel_rfl) rfl
  obtain ⟨w3, hw3, hz3, hb3, hF0⟩ := fi_start w
  have HZ3 : Hid (w3.heap.size = w.heap.size + 4) := hz3
  have HL : Hid (ChnN a s g L ∧ L.length ≤ most ∧ most ≤ 65536) := ⟨hL, hmost, hm2⟩
  have hlt : ∀ j, (j ∈ bsOf B uv fv ∨ j = gB ∨ j = mB) → j < w.heap.size := by
    rintro j (hj | rfl | rfl)
    · exact hE.ar.lt j hj
    · exact hE.kg.lt
    · exact hE.km.lt
  have hst : SeqStopsL 8 Tryz.prog 116 #[.pointer (some ⟨hB, 0, none⟩), .pointer (some ⟨mB, 0, none⟩), .pointer (some ⟨gB, 0, none⟩)] encW (KpF (w.heap.size + 1) (w.heap.size + 1 + 1)) (fun _ => False) (fun pre => pre <+: wl s g L)
      (fun pre A => pre.length < L.length ∧ ∀ j, Ldk (w.heap.size + 1) (w.heap.size + 1 + 1) A j → w.heap.size + 4 ≤ j ∧ j < A.heap.size) (Stw (w.heap.size + 1) (w.heap.size + 1 + 1) w3.heap.size) w3 :=
    walk1_stops hL hmost hm2 (by omega) ⟨by omega, by omega⟩ (fun j hj => by have := hlt j hj; omega) (hbh.below hb3 hbh.lt) (hE.keep fun j o hj _ _ => (hb3.block j (Array.getElem?_eq_some_iff.1 hj).1).trans hj)
  have hpos := hL.pos
  clear hE hbh hlt hL hmost
  refine wpAt_seq_k fun K hK => wpAt_of_wp ?_
  go_wp2
  refine wpAt_seq_k fun K hK => ?_
  have HK : Hid _ := hK
  clear hK
  refine wpAt_seq_k fun K2 hK2 => wpAt_of_wp ?_
  go_wp2
  refine wpAt_blockN ?_
  refine wpAt_boxedL ?A Tryz.func94 (gf := 116) (lb := #[.pointer (some ⟨hB, 0, none⟩), .pointer (some ⟨mB, 0, none⟩), .pointer (some ⟨gB, 0, none⟩)]) rfl (enters_of Tryz.func116 (by kernel_rfl) rfl)
    hst (fun A A' h => h.others) KpF.t (fun W l o o' hl ho hc _ => ?kb) (Below.refl _ _) (fun _ => rfl)
    (fun pre W => pre.length < L.length ∧ ∃ v1 v2, Fi w W pre v1 v2 false)
    (fun cc pre W => cc = .ret ∧ pre = wl s g L ∧ ∃ v1 v2, Fi w W pre v1 v2 true)
    (fun _ _ _ => False)
    (fun pre A hi => ⟨hi.1, fun j hj => by obtain ⟨v1, v2, hF⟩ := hi.2; exact hF.ledlt hj⟩)
    (fun pre A A' hi hs => ⟨hi.1, by obtain ⟨v1, v2, hF⟩ := hi.2; exact ⟨v1, v2, hF.st (by omega) hs⟩⟩)
    (fun pre A A' row hs hg hr => ⟨hs.1, by obtain ⟨v1, v2, hF⟩ := hs.2; exact ⟨v1, v2, hF.from (by omega) hg hr⟩⟩)
    (fun cc pre A A' row hs hg hr => ⟨hs.1, hs.2.1, by obtain ⟨v1, v2, hF⟩ := hs.2.2; exact ⟨v1, v2, hF.from (by omega) hg hr⟩⟩)
    ⟨hpos, _, _, hF0⟩
    (fun x bx W => ∃ u1 u2, w3.heap.size ≤ bx ∧ Bk W bx 31 #[.int .i64 x.1.1, .int .i64 x.1.2] ∧ Bk W (bx + 1) 37 x.2.cells.toArray ∧ Bk W (w.heap.size + 1) 43 #[u1] ∧ Bk W (w.heap.size + 1 + 1) 51 #[u2] ∧ (∀ b, bx ≤ b → b ≤ bx + 1 → u1.ownBlock ≠ some b ∧ u2.ownBlock ≠ some b))
    (fun x bx _ A A' row hs hg hr => by
      obtain ⟨u1, u2, h1, h2, h3, h4, h5, h6⟩ := hs
      exact ⟨u1, u2, h1, bk_from h2 hg hr, bk_from h3 hg hr, bk_from h4 hg hr, bk_from h5 hg hr, h6⟩)
    ?assign ?body (fun D xs W _ hf => hf.elim) ?stop (fun D chain pre W _ _ h _ => h.elim)
  case kb =>
    have hne : ∀ j, j ≠ l → (W.putObj l o').heap[j]? = W.heap[j]? := fun j hj => World.putObj_heap_other hj
    refine ⟨by simp, fun j ob hj hcj _ _ _ => ?_, fun j hj => .inl (hj.same (hne _ (by omega)) (hne _ (by omega)))⟩
    rw [hne j (fun e => by subst e; rw [hj] at ho; cases ho; rw [hc] at hcj; cases hcj)]
    exact hj
  case assign =>
    rintro l pre x W K ⟨hlen, v1, v2, hF⟩ hK
    obtain ⟨Wa, hWa⟩ : ∃ Wa, W.alloc (.cells #[.int .i64 x.1.1, .int .i64 x.1.2] 31) = Wa := ⟨_, rfl⟩
    have hza : Wa.heap.size = W.heap.size + 1 := by rw [← hWa]; simp
    obtain ⟨wz, hwz⟩ : ∃ wz, Wa.alloc (.cells #[.bool false, .bool false, .string ⟨#[]⟩, .string ⟨#[]⟩, .int .i64 0, .slice none 0 0, .int .i64 0, .string ⟨#[]⟩, .int .i64 0, .int .i64 0, .int .i64 0, .string ⟨#[]⟩, .int .i64 0, .bool false, .string ⟨#[]⟩, .string ⟨#[]⟩, .int .i64 0, .slice none 0 0, .int .i64 0, .int .i64 0, .int .i64 0] 37) = wz := ⟨_, rfl⟩
    have HZ : Hid (Bk wz Wa.heap.size 37 #[.bool false, .bool false, .string ⟨#[]⟩, .string ⟨#[]⟩, .int .i64 0, .slice none 0 0, .int .i64 0, .string ⟨#[]⟩, .int .i64 0, .int .i64 0, .int .i64 0, .string ⟨#[]⟩, .int .i64 0, .bool false, .string ⟨#[]⟩, .string ⟨#[]⟩, .int .i64 0, .slice none 0 0, .int .i64 0, .int .i64 0, .int .i64 0]) := by rw [← hwz]; exact Bk.new _ _ _
    obtain ⟨wn, hwn⟩ : ∃ wn, wz.setRow Wa.heap.size x.2.cells.toArray = wn := ⟨_, rfl⟩
    have hw6 := nd_laid hwz hwn
    have ht : Tn [] W wn := by rw [hw6, ← hWa]; exact ((Tn.refl _ _).alloc _).alloc _
    have kx : Bk wn W.heap.size 31 #[.int .i64 x.1.1, .int .i64 x.1.2] := by rw [hw6, ← hWa]; exact (Bk.new _ _ _).alloc _
    have kn : Bk wn (W.heap.size + 1) 37 x.2.cells.toArray := by rw [hw6, ← hza]; exact Bk.new _ _ _
    obtain ⟨bx, hbx⟩ : ∃ bx, W.heap.size = bx := ⟨_, rfl⟩
    have HZ2 : Hid (Bk wz (bx + 1) 37 #[.bool false, .bool false, .string ⟨#[]⟩, .string ⟨#[]⟩, .int .i64 0, .slice none 0 0, .int .i64 0, .string ⟨#[]⟩, .int .i64 0, .int .i64 0, .int .i64 0, .string ⟨#[]⟩, .int .i64 0, .bool false, .string ⟨#[]⟩, .string ⟨#[]⟩, .int .i64 0, .slice none 0 0, .int .i64 0, .int .i64 0, .int .i64 0]) := by rw [← hbx, ← hza]; exact HZ.out
    have hwn2 : wz.setRow (bx + 1) x.2.cells.toArray = wn := by rw [← hbx, ← hza]; exact hwn
    have HX : Hid (Tn [] W wn ∧ Bk wn bx 31 #[.int .i64 x.1.1, .int .i64 x.1.2] ∧ Bk wn (bx + 1) 37 x.2.cells.toArray ∧ Wa.heap.size = bx + 1) := by rw [← hbx]; exact ⟨ht, kx, kn, hza⟩
    clear hw6 ht kx kn hwn
    gi_wp2_with (refine wpListIn_store_nd rfl _ _ rfl (bx + 1) _ _ x.2 rfl rfl HZ2.out rfl ?_; rw [hwn2])
    obtain ⟨ht, kx, kn, hza'⟩ := HX.out
    have hFn := hF.tn ht (by simp)
    have hsz := hF.size
    have hz := HZ3.out
    refine hK bx _ ((keeps_tn ht (by simp)).from _) ⟨ht.size, fun j ob hj _ _ _ _ => (ht.block j (Array.getElem?_eq_some_iff.1 hj).1 (by simp)).trans hj, fun j hj => .inl (hj.same (ht.block _ (by omega) (by simp)) (ht.block _ (by omega) (by simp)))⟩ ⟨hlen, v1, v2, hFn⟩ ⟨v1, v2, by omega, kx, kn, hFn.b1, hFn.b2, fun b h1 h2 => ⟨fun he => ?_, fun he => ?_⟩⟩
    · have := (hF.two.o1.blk he).2
      omega
    · have := (hF.two.o2.blk he).2
      omega
  case stop =>
    rintro D cc pre W hD hpre ⟨rfl, hwl, v1, v2, hF⟩ hK
    have hz := HZ3.out
    have cr : ∀ b cs t, Bk W b t cs → (W.putObj D (.deferred none)).cell? ⟨b, 0, none⟩ = cs[0]? := fun b cs t hb => by
      have h1 : Bk (W.putObj D (.deferred none)) b t cs := (World.putObj_heap_other (fun e => by
        subst e
        have := hK.symm.trans hb
        cases this)).trans hb
      exact h1.cell 0
    have c1 := cr _ _ _ hF.b1
    have c2 := cr _ _ _ hF.b2
    have c3 := cr _ _ _ hF.b3
    simp only [List.getElem?_toArray, List.getElem?_cons_zero] at c1 c2 c3
    gi_wp2
    refine ⟨by simp, .inl ⟨_, _, rfl, run_takeDeferred hK, ?_⟩⟩
    refine ⟨.tuple #[v1, v2, .bool true], ?_, v1, v2, rfl, ?_, ?_⟩
    · simp [results, Tryz.f94, go_sem, c1, c2, c3]
    · subst hwl
      have hg := grownBy_putObj' W D (.deferred none)
      have h2 := hF.two
      rw [wl_fst, wl_snd] at h2
      have hr : ∀ r, some D = some r → w.heap.size ≤ r ∧ ∃ o : Obj, W.heap[r]? = some o ∧ o.isCells = false := fun r e => by cases e; exact ⟨by omega, _, hK, rfl⟩
      exact ⟨Own.mono (show Own Hd.cells 2 31 _ (w.heap.size + 4) v1 _ from owns_fromN h2.o1 hg hr) (by omega), Own.mono (show Own Nod.cells 21 37 _ (w.heap.size + 4) v2 _ from owns_fromN h2.o2 hg hr) (by omega), h2.ne⟩
    · exact hF.below.trans ⟨rfl, rfl, rfl, by simp, fun k hk => World.putObj_heap_other (by omega)⟩
  case body =>
    rintro l pre x bx W - ⟨hlen, v1, v2, hF⟩ ⟨u1, u2, hbx, kx, kn, hu1, hu2, hn⟩ hpre
    have hu : u1 = v1 := by have := (show W.heap[_]? = _ from hu1).symm.trans hF.b1; simpa using this
    have hv : u2 = v2 := by have := (show W.heap[_]? = _ from hu2).symm.trans hF.b2; simpa using this
    subst hu hv
    have hz := HZ3.out
    have HF : Hid (Fi w W pre u1 u2 false) := hF
    have HPR : Hid (pre ++ [x] <+: wl s g L ∧ pre.length < L.length) := ⟨hpre, hlen⟩
    have hown : ∀ b, bx ≤ b → b ≤ bx + 1 → b ∉ own2 u1 u2 := fun b h1 h2 hm => (mem_own2.1 hm).elim (hn b h1 h2).1 (hn b h1 h2).2
    have HBX : Hid (∀ W', Tn (own2 u1 u2 ++ [w.heap.size + 1, w.heap.size + 1 + 1]) W W' → Bk W' (bx + 1) 37 x.2.cells.toArray) := fun W' ht => kn.tn ht (fun hm => by
      rcases List.mem_append.1 hm with hm | hm
      · exact hown (bx + 1) (by omega) (by omega) hm
      · simp only [List.mem_cons, List.not_mem_nil, or_false] at hm; omega)
    have HS : Hid (∀ W', Tn (own2 u1 u2) W W' → W'.cell? ⟨w.heap.size + 1, 0, none⟩ = some u1 ∧ W'.cell? ⟨w.heap.size + 1 + 1, 0, none⟩ = some u2 ∧ W'.cell? ⟨bx, 0, none⟩ = some (.int .i64 x.1.1) ∧ W'.cell? ⟨bx, 1, none⟩ = some (.int .i64 x.1.2) ∧ W'.rangeAt (bx + 1) 0 x.2.cells) := fun W' ht => by
      have hlt := hF.two.lt
      have k1 := hF.b1.tn ht (fun hm => by have := (hlt _ hm).1; omega)
      have k2 := hF.b2.tn ht (fun hm => by have := (hlt _ hm).1; omega)
      have k3 := kx.tn ht (hown bx (by omega) (by omega))
      have k4 := kn.tn ht (hown (bx + 1) (by omega) (by omega))
      refine ⟨k1.cell 0, k2.cell 0, k3.cell 0, k3.cell 1, fun j v hv => ?_⟩
      rw [Nat.zero_add, k4.cell j]
      simpa using hv
    have HFZ : Hid (∀ W', Tn (own2 u1 u2) W W' → ∀ b ∈ [w.heap.size + 1, w.heap.size + 1 + 1], W'.frozen? ⟨b, 0, none⟩ = false) := fun W' ht b hb => by
      have hlt := hF.two.lt
      simp only [List.mem_cons, List.not_mem_nil, or_false] at hb
      rcases hb with rfl | rfl
      · exact (hF.b1.tn ht (fun hm => by have := (hlt _ hm).1; omega)).frozen 0
      · exact (hF.b2.tn ht (fun hm => by have := (hlt _ hm).1; omega)).frozen 0
    have hN : pre.length ≤ 65536 := by have := HL.out.2; omega
    have HA1 : Hid (∀ W' E, Tn [] W W' → Els Hd.cells 2 W' (some ⟨E, 0, none⟩) [x.1] → ∃ v' w', (Builtin.append_ #[43, 43] 43 #[u1, .slice (some ⟨E, 0, none⟩) 1 1]).run Tryz.prog W' = .ok v' w' ∧ Own Hd.cells 2 31 w' (w.heap.size + 4) v' (pre.map Prod.fst ++ [x.1]) ∧ Tn u1.ownBlock.toList W' w' ∧ (∀ j, v'.ownBlock = some j → u1.ownBlock = some j ∨ W'.heap.size ≤ j)) := fun W' E ht hel =>
      app_entryB hdK Tryz.underlying43 hdinfo rfl (hF.two.o1.tn ht (by simp)) hel (by have := ht.size; have := hF.size; omega) (by rw [List.length_map]; unfold maxLen; omega) (by rw [List.length_map]; omega)
    have HA2 : Hid (∀ W' E, Tn u1.ownBlock.toList W W' → Els Nod.cells 21 W' (some ⟨E, 0, none⟩) [x.2] → ∃ v' w', (Builtin.append_ #[51, 51] 51 #[u2, .slice (some ⟨E, 0, none⟩) 1 1]).run Tryz.prog W' = .ok v' w' ∧ Own Nod.cells 21 37 w' (w.heap.size + 4) v' (pre.map Prod.snd ++ [x.2]) ∧ Tn u2.ownBlock.toList W' w' ∧ (∀ j, v'.ownBlock = some j → u2.ownBlock = some j ∨ W'.heap.size ≤ j)) := fun W' E ht hel =>
      app_entryB ndK Tryz.underlying51 ndinfo rfl (hF.two.o2.tn ht (fun b hb hm => hF.two.ne b (opt_toList.1 hm) hb)) hel (by have := ht.size; have := hF.size; omega) (by rw [List.length_map]; unfold maxLen; omega) (by rw [List.length_map]; omega)
    have HBN : Hid (∀ b, W.heap.size ≤ b → u1.ownBlock ≠ some b) := fun b hb he => by have := (hF.two.o1.blk he).2; omega
    clear HK hF hu1 hu2 hn kx kn hN hpre hown hlen hst
    gi_wp2_with fail
    refine wpIn_region_mid (S := fun W' => W'.cell? ⟨w.heap.size + 1, 0, none⟩ = some u1 ∧ W'.cell? ⟨w.heap.size + 1 + 1, 0, none⟩ = some u2 ∧ W'.cell? ⟨bx, 0, none⟩ = some (.int .i64 x.1.1) ∧ W'.cell? ⟨bx, 1, none⟩ = some (.int .i64 x.1.2) ∧ W'.rangeAt (bx + 1) 0 x.2.cells) 8 (by kernel_rfl) (by rfl) (by rintro ⟨a, w, h⟩; exact h) ?_
    have hS := HS.out W.drew (Tn.refl _ _).drew
    refine wpAnyM_take (i := 0) [] (oi := { dst := some 12, op := Op.load 43 (Operand.tmp 4), type := 43, pos := _, after := #[], guard := none }) (v := ?_) rfl (by kernel_rfl) (by kernel_rfl) (by kernel_rfl) (by kernel_rfl) (fun _ _ _ h => h) (Or.inl ⟨by rfl, ?_⟩) hS ?_
    rotate_left
    · (intro w' hSw; (try dsimp only at hSw); go_simp; try with_reducible rfl)
    try simp only [Act.put, List.setIfInBounds_toArray, List.set_cons_zero, List.set_cons_succ]
    refine wpAnyM_take (i := 1) [] (oi := { dst := some 13, op := Op.load 31 (Operand.tmp 7), type := 31, pos := _, after := #[], guard := none }) (v := ?_) rfl (by kernel_rfl) (by kernel_rfl) (by kernel_rfl) (by kernel_rfl) (fun _ _ _ h => h) (Or.inl ⟨by rfl, ?_⟩) hS ?_
    rotate_left
    · (intro w' hSw; (try dsimp only at hSw); go_simp; try with_reducible rfl)
    try simp only [Act.put, List.setIfInBounds_toArray, List.set_cons_zero, List.set_cons_succ]
    refine wpAnyM_take (i := 4) [7] (oi := { dst := some 16, op := Op.load 51 (Operand.tmp 5), type := 51, pos := _, after := #[], guard := none }) (v := ?_) rfl (by kernel_rfl) (by kernel_rfl) (by kernel_rfl) (by kernel_rfl) (fun _ _ _ h => h) (Or.inl ⟨by rfl, ?_⟩) hS ?_
    rotate_left
    · (intro w' hSw; (try dsimp only at hSw); go_simp; try with_reducible rfl)
    try simp only [Act.put, List.setIfInBounds_toArray, List.set_cons_zero, List.set_cons_succ]
    refine wpAnyM_take (i := 5) [6, 7] (oi := { dst := some 17, op := Op.load 37 (Operand.tmp 8), type := 37, pos := _, after := #[], guard := none }) (v := x.2.w) rfl (by kernel_rfl) (by kernel_rfl) (by kernel_rfl) (by kernel_rfl) (fun _ _ _ h => h) (yieldsIf_load_mid (by rfl) _ _ rfl (bx + 1) 0 (by rfl) x.2.cells _ (fun w' hw' => hw'.2.2.2.2) Tryz.underlying37 rfl nd_info) hS ?_
    try simp only [Act.put, List.setIfInBounds_toArray, List.set_cons_zero, List.set_cons_succ]
    refine wpAnyM_ready (rs := [2, 6]) (by kernel_rfl) (by simp) ?_
    refine AllReadyM.cons (o := { dst := some 14, op := Op.buildSlice 43 1 #[(0, Operand.tmp 13)], type := 43, pos := _, after := #[{ on := 1, ground := Ground.data }], guard := none }) rfl (fun K hK => ?_) (AllReadyM.cons (o := { dst := some 18, op := Op.buildSlice 51 1 #[(0, Operand.tmp 17)], type := 51, pos := _, after := #[{ on := 5, ground := Ground.data }], guard := none }) rfl (fun K hK => ?_) AllReadyM.nil)
    · go_simp
      refine hK _ _ ⟨fun _ => HS.out _ (by repeat (first | exact Tn.refl _ _ | exact t3.mono (fun y hy => mem_own2.2 (.inl (opt_toList.1 hy))) | refine Tn.alloc ?_ _ | refine Tn.drew ?_)), ?_⟩
      clear hK K
      try simp only [Act.put, List.setIfInBounds_toArray, List.set_cons_zero, List.set_cons_succ]
      refine wpAnyM_ready (rs := [3, 6]) (by kernel_rfl) (by simp) ?_
      refine AllReadyM.cons (o := { dst := some 15, op := Op.call { callee := Callee.builtin Builtin.append, args := #[Operand.tmp 12, Operand.tmp 14], argTypes := #[43, 43] }, type := 43, pos := _, after := #[{ on := 0, ground := Ground.data }, { on := 2, ground := Ground.data }], guard := none }) rfl (fun K hK => ?_) (AllReadyM.cons (o := { dst := some 18, op := Op.buildSlice 51 1 #[(0, Operand.tmp 17)], type := 51, pos := _, after := #[{ on := 5, ground := Ground.data }], guard := none }) rfl (fun K hK => ?_) AllReadyM.nil)
      · refine step_appK rfl _ _ _ rfl _ _ (by rfl) (by rfl) (HA1.out _ _ (by repeat (first | exact Tn.refl _ _ | refine Tn.alloc ?_ _ | refine Tn.drew ?_)) (els_one hdK _ 31 x.1)) ?_
        intro v3 w3' hP
        obtain ⟨o3, t3', k3⟩ := hP
        obtain ⟨q3, n3, d3, rfl⟩ : ∃ q n d, v3 = .slice q n d := by (obtain ⟨q, d, hv, -⟩ := Own.els hdK o3; exact ⟨q, _, d, hv⟩)
        have t3 : Tn u1.ownBlock.toList W w3' := Tn.trans (S := u1.ownBlock.toList) (by repeat (first | exact Tn.refl _ _ | refine Tn.alloc ?_ _ | refine Tn.drew ?_)) t3' (fun y hy => .inl hy)
        refine hK _ _ ⟨fun _ => HS.out _ (by repeat (first | exact Tn.refl _ _ | exact t3.mono (fun y hy => mem_own2.2 (.inl (opt_toList.1 hy))) | refine Tn.alloc ?_ _ | refine Tn.drew ?_)), ?_⟩
        clear hK K
        try simp only [Act.put, List.setIfInBounds_toArray, List.set_cons_zero, List.set_cons_succ]
        refine wpAnyM_ready (rs := [6]) (by kernel_rfl) (by simp) ?_
        refine AllReadyM.cons (o := { dst := some 18, op := Op.buildSlice 51 1 #[(0, Operand.tmp 17)], type := 51, pos := _, after := #[{ on := 5, ground := Ground.data }], guard := none }) rfl (fun K hK => ?_) AllReadyM.nil
        · rw [if_pos (by rfl)]
          refine wp_rowN _ rfl x.2 rfl ?_
          refine hK _ _ ⟨fun _ => HS.out _ (by repeat (first | exact Tn.refl _ _ | exact t3.mono (fun y hy => mem_own2.2 (.inl (opt_toList.1 hy))) | refine Tn.alloc ?_ _ | refine Tn.drew ?_)), ?_⟩
          clear hK K
          try simp only [Act.put, List.setIfInBounds_toArray, List.set_cons_zero, List.set_cons_succ]
          refine wpAnyM_ready (rs := [7]) (by kernel_rfl) (by simp) ?_
          refine AllReadyM.cons (o := { dst := some 19, op := Op.call { callee := Callee.builtin Builtin.append, args := #[Operand.tmp 16, Operand.tmp 18], argTypes := #[51, 51] }, type := 51, pos := _, after := #[{ on := 4, ground := Ground.data }, { on := 6, ground := Ground.data }, { on := 3, ground := Ground.chain }], guard := none }) rfl (fun K hK => ?_) AllReadyM.nil
          · refine step_appK rfl _ _ _ rfl _ _ (by rfl) (by rfl) (HA2.out _ _ (by repeat (first | exact t3 | refine Tn.alloc ?_ _ | refine Tn.drew ?_)) (els_one ndK _ 37 x.2)) ?_
            intro v7 w7 hP
            obtain ⟨o7, t7, k7⟩ := hP
            obtain ⟨q7, n7, d7, rfl⟩ : ∃ q n d, v7 = .slice q n d := by (obtain ⟨q, d, hv, -⟩ := Own.els ndK o7; exact ⟨q, _, d, hv⟩)
            have hG : Grw Hd.cells 2 31 Nod.cells 21 37 (w.heap.size + 4) W w7 u1 u2 (.slice q3 n3 d3) (.slice q7 n7 d7) (pre.map Prod.fst ++ [x.1]) (pre.map Prod.snd ++ [x.2]) := grw_end HF.out.two (by repeat (first | exact Tn.refl _ _ | refine Tn.alloc ?_ _ | refine Tn.drew ?_)) o3 t3' k3 (by repeat (first | exact Tn.refl _ _ | refine Tn.alloc ?_ _ | refine Tn.drew ?_)) o7 t7 k7
            have hTw : Tn (own2 u1 u2) W w7 := hG.tn
            refine hK _ _ ⟨fun _ => HS.out _ hTw, ?_⟩
            clear hK K
            try simp only [Act.put, List.setIfInBounds_toArray, List.set_cons_zero, List.set_cons_succ]
            have hs7 := HS.out _ hTw
            have y1 : w7.cell? ⟨w.heap.size + 1, 0, none⟩ = some u1 := hs7.1
            have y2 : w7.cell? ⟨w.heap.size + 1 + 1, 0, none⟩ = some u2 := hs7.2.1
            have y3 : w7.frozen? ⟨w.heap.size + 1, 0, none⟩ = false := HFZ.out w7 hTw _ (by simp)
            have y4 : w7.frozen? ⟨w.heap.size + 1 + 1, 0, none⟩ = false := HFZ.out w7 hTw _ (by simp)
            have yn : ¬ (w.heap.size + 1 = w.heap.size + 1 + 1) := by omega
            refine wpAnyM_ready (rs := [8]) (by kernel_rfl) (by simp) ?_
            refine AllReadyM.cons (o := { dst := none, op := Op.store 43 (Operand.tmp 4) (Operand.tmp 15), type := 0, pos := _, after := #[{ on := 3, ground := Ground.data }, { on := 7, ground := Ground.chain }, { on := 0, ground := Ground.phase }, { on := 1, ground := Ground.phase }, { on := 2, ground := Ground.phase }, { on := 3, ground := Ground.phase }, { on := 4, ground := Ground.textOnly Departure.inlinedCapture }, { on := 5, ground := Ground.textOnly Departure.lateStores }, { on := 6, ground := Ground.textOnly Departure.inlinedCapture }, { on := 7, ground := Ground.textOnly Departure.lateStoresUnsure }], guard := none }) rfl (fun K hK => ?_) AllReadyM.nil
            go_simp
            refine hK _ _ ⟨fun h => absurd h (by omega), ?_⟩
            clear hK K
            try simp only [Act.put, List.setIfInBounds_toArray, List.set_cons_zero, List.set_cons_succ]
            refine wpAnyM_ready (rs := [9]) (by kernel_rfl) (by simp) ?_
            refine AllReadyM.cons (o := { dst := none, op := Op.store 51 (Operand.tmp 5) (Operand.tmp 19), type := 0, pos := _, after := #[{ on := 7, ground := Ground.data }, { on := 8, ground := Ground.chain }, { on := 0, ground := Ground.phase }, { on := 1, ground := Ground.phase }, { on := 2, ground := Ground.phase }, { on := 3, ground := Ground.phase }, { on := 4, ground := Ground.phase }, { on := 5, ground := Ground.phase }, { on := 6, ground := Ground.phase }, { on := 7, ground := Ground.phase }, { on := 8, ground := Ground.phase }], guard := none }) rfl (fun K hK => ?_) AllReadyM.nil
            go_simp
            refine hK _ _ ⟨fun h => absurd h (by omega), ?_⟩
            clear hK K
            try simp only [Act.put, List.setIfInBounds_toArray, List.set_cons_zero, List.set_cons_succ]
            refine wpAnyM_done (by kernel_rfl) ?_ _
            clear hs7 y1 y2 y3 y4 yn
            obtain ⟨w9, hw9⟩ : ∃ w9, (w7.setCell ⟨w.heap.size + 1, 0, none⟩ (.slice q3 n3 d3)).setCell ⟨w.heap.size + 1 + 1, 0, none⟩ (.slice q7 n7 d7) = w9 := ⟨_, rfl⟩
            rw [hw9]
            obtain ⟨hF9, hk9, hp9, ht9⟩ := HF.out.grew hG hw9.symm
            have kn9 := HBX.out w9 ht9
            have HE9 : Hid (Fi w w9 (pre ++ [x]) (.slice q3 n3 d3) (.slice q7 n7 d7) false ∧ KeepsOthers W w9 ∧ KpF (w.heap.size + 1) (w.heap.size + 1 + 1) W w9 ∧ Bk w9 (bx + 1) 37 x.2.cells.toArray) := ⟨hF9, hk9, hp9, kn9⟩
            have g0 : w9.cell? ⟨w.heap.size, 0, none⟩ = some (.func (.func 96) #[] #[]) := hF9.bi.cell 0
            clear hF9 hk9 hp9 ht9 kn9 hG hTw o3 t3 t3' k3 o7 t7 k7 hw9 hS
            obtain ⟨xw, hxw⟩ : ∃ xw, x.2.w = xw := ⟨_, rfl⟩
            gi_wp2_with (refine wpListIn_load_nd (by rfl) _ rfl (bx + 1) _ x.2 rfl HE9.out.2.2.2 ?_; rw [hxw])
            refine ⟨trivial, ?_⟩
            rw [← hxw]
            refine (CallsIn.inRound l (callsIn_wide.2 (isBase_any x.2 _))).mono ?_
            rintro r w10 ⟨rfl, hb10⟩
            have ht10 : Tn [] w9 w10 := Tn.of_below hb10 []
            have hf10 := HE9.out.1.tn ht10 (by simp)
            have HE10 : Hid (Fi w w10 (pre ++ [x]) (.slice q3 n3 d3) (.slice q7 n7 d7) false ∧ KeepsOthers W w10 ∧ KpF (w.heap.size + 1) (w.heap.size + 1 + 1) W w10) := ⟨hf10, HE9.out.2.1.trans (keeps_tn ht10 (by simp)), HE9.out.2.2.1.t ⟨ht10.size, fun j ob hj _ _ _ _ => (ht10.block j (Array.getElem?_eq_some_iff.1 hj).1 (by simp)).trans hj, fun j hj => .inl (hj.same (ht10.block _ (by have := HE9.out.1.size; omega) (by simp)) (ht10.block _ (by have := HE9.out.1.size; omega) (by simp)))⟩⟩
            have hxi : L[pre.length]? = some x.2 ∧ pre.length + 1 ≤ L.length := by
              have h1 := HPR.out.1
              obtain ⟨t, ht⟩ := h1
              have h2 : (wl s g L)[pre.length]? = some x := by rw [← ht]; simp
              have h3 := HPR.out.2
              have h4 := wl_at (s := s) (g := g) (List.getElem?_eq_getElem h3)
              rw [h2] at h4
              refine ⟨?_, h3⟩
              rw [List.getElem?_eq_getElem h3]
              exact congrArg some (congrArg Prod.snd (Option.some.inj h4)).symm
            have hbs := HL.out.1.base _ _ hxi.1
            have HXI : Hid (x.2.b = decide (pre.length + 1 = L.length) ∧ pre.length + 1 ≤ L.length) := ⟨hbs, hxi.2⟩
            have y1 : w10.cell? ⟨w.heap.size + 1, 0, none⟩ = some (.slice q3 n3 d3) := hf10.b1.cell 0
            have y2 : w10.cell? ⟨w.heap.size + 1 + 1, 0, none⟩ = some (.slice q7 n7 d7) := hf10.b2.cell 0
            have y3 : w10.cell? ⟨w.heap.size + 1 + 1 + 1, 0, none⟩ = some (.bool false) := hf10.b3.cell 0
            have z1 : w10.frozen? ⟨w.heap.size + 1, 0, none⟩ = false := hf10.b1.frozen 0
            have z2 : w10.frozen? ⟨w.heap.size + 1 + 1, 0, none⟩ = false := hf10.b2.frozen 0
            have z3 : w10.frozen? ⟨w.heap.size + 1 + 1 + 1, 0, none⟩ = false := hf10.b3.frozen 0
            clear hb10 ht10 hf10 hxi hbs g0 HE9
            cases hxb : x.2.b with
            | false =>
              have hne : pre.length + 1 < L.length := by
                have h1 := HXI.out.1
                rw [hxb] at h1
                have h2 := of_decide_eq_false h1.symm
                have := HXI.out.2
                omega
              have HNE : Hid (pre.length + 1 < L.length) := hne
              clear hne y1 y2 y3 z1 z2 z3
              gi_wp2
              exact ⟨HE10.out.2.1.from _, HE10.out.2.2, by rw [List.length_append]; exact HNE.out, _, _, HE10.out.1⟩
            | true =>
              have hwl : pre ++ [x] = wl s g L := by
                have h1 := HXI.out.1
                rw [hxb] at h1
                have h2 := of_decide_eq_true h1.symm
                exact HPR.out.1.eq_of_length (by rw [wl_len, List.length_append]; exact h2)
              have HWL : Hid (pre ++ [x] = wl s g L) := hwl
              have n12 : ¬ (w.heap.size + 1 = w.heap.size + 1 + 1) := by omega
              have n13 : ¬ (w.heap.size + 1 = w.heap.size + 1 + 1 + 1) := by omega
              have n23 : ¬ (w.heap.size + 1 + 1 = w.heap.size + 1 + 1 + 1) := by omega
              clear hwl
              gi_wp2_with fail
              gi_region
              all_goals (
                gi_wp2
                obtain ⟨hfd, hkd⟩ := HE10.out.1.found rfl
                exact ⟨(HE10.out.2.1.trans hkd).from _, rfl, HWL.out, _, _, hfd⟩)
      · rw [if_pos (by rfl)]
        refine wp_rowN _ rfl x.2 rfl ?_
        refine hK _ _ ⟨fun _ => HS.out _ (by repeat (first | exact Tn.refl _ _ | exact t3.mono (fun y hy => mem_own2.2 (.inl (opt_toList.1 hy))) | refine Tn.alloc ?_ _ | refine Tn.drew ?_)), ?_⟩
        clear hK K
        try simp only [Act.put, List.setIfInBounds_toArray, List.set_cons_zero, List.set_cons_succ]
        refine wpAnyM_ready (rs := [3]) (by kernel_rfl) (by simp) ?_
        refine AllReadyM.cons (o := { dst := some 15, op := Op.call { callee := Callee.builtin Builtin.append, args := #[Operand.tmp 12, Operand.tmp 14], argTypes := #[43, 43] }, type := 43, pos := _, after := #[{ on := 0, ground := Ground.data }, { on := 2, ground := Ground.data }], guard := none }) rfl (fun K hK => ?_) AllReadyM.nil
        · refine step_appK rfl _ _ _ rfl _ _ (by rfl) (by rfl) (HA1.out _ _ (by repeat (first | exact Tn.refl _ _ | refine Tn.alloc ?_ _ | refine Tn.drew ?_)) ((els_one hdK _ 31 x.1).tn (S := []) (by repeat (first | exact Tn.refl _ _ | refine Tn.alloc ?_ _ | refine Tn.drew ?_)) (by simp))) ?_
          intro v3 w3' hP
          obtain ⟨o3, t3', k3⟩ := hP
          obtain ⟨q3, n3, d3, rfl⟩ : ∃ q n d, v3 = .slice q n d := by (obtain ⟨q, d, hv, -⟩ := Own.els hdK o3; exact ⟨q, _, d, hv⟩)
          have t3 : Tn u1.ownBlock.toList W w3' := Tn.trans (S := u1.ownBlock.toList) (by repeat (first | exact Tn.refl _ _ | refine Tn.alloc ?_ _ | refine Tn.drew ?_)) t3' (fun y hy => .inl hy)
          refine hK _ _ ⟨fun _ => HS.out _ (by repeat (first | exact Tn.refl _ _ | exact t3.mono (fun y hy => mem_own2.2 (.inl (opt_toList.1 hy))) | refine Tn.alloc ?_ _ | refine Tn.drew ?_)), ?_⟩
          clear hK K
          try simp only [Act.put, List.setIfInBounds_toArray, List.set_cons_zero, List.set_cons_succ]
          refine wpAnyM_ready (rs := [7]) (by kernel_rfl) (by simp) ?_
          refine AllReadyM.cons (o := { dst := some 19, op := Op.call { callee := Callee.builtin Builtin.append, args := #[Operand.tmp 16, Operand.tmp 18], argTypes := #[51, 51] }, type := 51, pos := _, after := #[{ on := 4, ground := Ground.data }, { on := 6, ground := Ground.data }, { on := 3, ground := Ground.chain }], guard := none }) rfl (fun K hK => ?_) AllReadyM.nil
          · refine step_appK rfl _ _ _ rfl _ _ (by rfl) (by rfl) (HA2.out _ _ (by repeat (first | exact t3 | refine Tn.alloc ?_ _ | refine Tn.drew ?_)) ((els_one ndK _ 37 x.2).tn (S := u1.ownBlock.toList) (by repeat (first | exact t3' | refine Tn.alloc ?_ _ | refine Tn.drew ?_)) (fun b o hb hm => by cases hb; exact HBN.out _ (by simp) (opt_toList.1 hm)))) ?_
            intro v7 w7 hP
            obtain ⟨o7, t7, k7⟩ := hP
            obtain ⟨q7, n7, d7, rfl⟩ : ∃ q n d, v7 = .slice q n d := by (obtain ⟨q, d, hv, -⟩ := Own.els ndK o7; exact ⟨q, _, d, hv⟩)
            have hG : Grw Hd.cells 2 31 Nod.cells 21 37 (w.heap.size + 4) W w7 u1 u2 (.slice q3 n3 d3) (.slice q7 n7 d7) (pre.map Prod.fst ++ [x.1]) (pre.map Prod.snd ++ [x.2]) := grw_end HF.out.two (by repeat (first | exact Tn.refl _ _ | refine Tn.alloc ?_ _ | refine Tn.drew ?_)) o3 t3' k3 (by repeat (first | exact Tn.refl _ _ | refine Tn.alloc ?_ _ | refine Tn.drew ?_)) o7 t7 k7
            have hTw : Tn (own2 u1 u2) W w7 := hG.tn
            refine hK _ _ ⟨fun _ => HS.out _ hTw, ?_⟩
            clear hK K
            try simp only [Act.put, List.setIfInBounds_toArray, List.set_cons_zero, List.set_cons_succ]
            have hs7 := HS.out _ hTw
            have y1 : w7.cell? ⟨w.heap.size + 1, 0, none⟩ = some u1 := hs7.1
            have y2 : w7.cell? ⟨w.heap.size + 1 + 1, 0, none⟩ = some u2 := hs7.2.1
            have y3 : w7.frozen? ⟨w.heap.size + 1, 0, none⟩ = false := HFZ.out w7 hTw _ (by simp)
            have y4 : w7.frozen? ⟨w.heap.size + 1 + 1, 0, none⟩ = false := HFZ.out w7 hTw _ (by simp)
            have yn : ¬ (w.heap.size + 1 = w.heap.size + 1 + 1) := by omega
            refine wpAnyM_ready (rs := [8]) (by kernel_rfl) (by simp) ?_
            refine AllReadyM.cons (o := { dst := none, op := Op.store 43 (Operand.tmp 4) (Operand.tmp 15), type := 0, pos := _, after := #[{ on := 3, ground := Ground.data }, { on := 7, ground := Ground.chain }, { on := 0, ground := Ground.phase }, { on := 1, ground := Ground.phase }, { on := 2, ground := Ground.phase }, { on := 3, ground := Ground.phase }, { on := 4, ground := Ground.textOnly Departure.inlinedCapture }, { on := 5, ground := Ground.textOnly Departure.lateStores }, { on := 6, ground := Ground.textOnly Departure.inlinedCapture }, { on := 7, ground := Ground.textOnly Departure.lateStoresUnsure }], guard := none }) rfl (fun K hK => ?_) AllReadyM.nil
            go_simp
            refine hK _ _ ⟨fun h => absurd h (by omega), ?_⟩
            clear hK K
            try simp only [Act.put, List.setIfInBounds_toArray, List.set_cons_zero, List.set_cons_succ]
            refine wpAnyM_ready (rs := [9]) (by kernel_rfl) (by simp) ?_
            refine AllReadyM.cons (o := { dst := none, op := Op.store 51 (Operand.tmp 5) (Operand.tmp 19), type := 0, pos := _, after := #[{ on := 7, ground := Ground.data }, { on := 8, ground := Ground.chain }, { on := 0, ground := Ground.phase }, { on := 1, ground := Ground.phase }, { on := 2, ground := Ground.phase }, { on := 3, ground := Ground.phase }, { on := 4, ground := Ground.phase }, { on := 5, ground := Ground.phase }, { on := 6, ground := Ground.phase }, { on := 7, ground := Ground.phase }, { on := 8, ground := Ground.phase }], guard := none }) rfl (fun K hK => ?_) AllReadyM.nil
            go_simp
            refine hK _ _ ⟨fun h => absurd h (by omega), ?_⟩
            clear hK K
            try simp only [Act.put, List.setIfInBounds_toArray, List.set_cons_zero, List.set_cons_succ]
            refine wpAnyM_done (by kernel_rfl) ?_ _
            clear hs7 y1 y2 y3 y4 yn
            obtain ⟨w9, hw9⟩ : ∃ w9, (w7.setCell ⟨w.heap.size + 1, 0, none⟩ (.slice q3 n3 d3)).setCell ⟨w.heap.size + 1 + 1, 0, none⟩ (.slice q7 n7 d7) = w9 := ⟨_, rfl⟩
            rw [hw9]
            obtain ⟨hF9, hk9, hp9, ht9⟩ := HF.out.grew hG hw9.symm
            have kn9 := HBX.out w9 ht9
            have HE9 : Hid (Fi w w9 (pre ++ [x]) (.slice q3 n3 d3) (.slice q7 n7 d7) false ∧ KeepsOthers W w9 ∧ KpF (w.heap.size + 1) (w.heap.size + 1 + 1) W w9 ∧ Bk w9 (bx + 1) 37 x.2.cells.toArray) := ⟨hF9, hk9, hp9, kn9⟩
            have g0 : w9.cell? ⟨w.heap.size, 0, none⟩ = some (.func (.func 96) #[] #[]) := hF9.bi.cell 0
            clear hF9 hk9 hp9 ht9 kn9 hG hTw o3 t3 t3' k3 o7 t7 k7 hw9 hS
            obtain ⟨xw, hxw⟩ : ∃ xw, x.2.w = xw := ⟨_, rfl⟩
            gi_wp2_with (refine wpListIn_load_nd (by rfl) _ rfl (bx + 1) _ x.2 rfl HE9.out.2.2.2 ?_; rw [hxw])
            refine ⟨trivial, ?_⟩
            rw [← hxw]
            refine (CallsIn.inRound l (callsIn_wide.2 (isBase_any x.2 _))).mono ?_
            rintro r w10 ⟨rfl, hb10⟩
            have ht10 : Tn [] w9 w10 := Tn.of_below hb10 []
            have hf10 := HE9.out.1.tn ht10 (by simp)
            have HE10 : Hid (Fi w w10 (pre ++ [x]) (.slice q3 n3 d3) (.slice q7 n7 d7) false ∧ KeepsOthers W w10 ∧ KpF (w.heap.size + 1) (w.heap.size + 1 + 1) W w10) := ⟨hf10, HE9.out.2.1.trans (keeps_tn ht10 (by simp)), HE9.out.2.2.1.t ⟨ht10.size, fun j ob hj _ _ _ _ => (ht10.block j (Array.getElem?_eq_some_iff.1 hj).1 (by simp)).trans hj, fun j hj => .inl (hj.same (ht10.block _ (by have := HE9.out.1.size; omega) (by simp)) (ht10.block _ (by have := HE9.out.1.size; omega) (by simp)))⟩⟩
            have hxi : L[pre.length]? = some x.2 ∧ pre.length + 1 ≤ L.length := by
              have h1 := HPR.out.1
              obtain ⟨t, ht⟩ := h1
              have h2 : (wl s g L)[pre.length]? = some x := by rw [← ht]; simp
              have h3 := HPR.out.2
              have h4 := wl_at (s := s) (g := g) (List.getElem?_eq_getElem h3)
              rw [h2] at h4
              refine ⟨?_, h3⟩
              rw [List.getElem?_eq_getElem h3]
              exact congrArg some (congrArg Prod.snd (Option.some.inj h4)).symm
            have hbs := HL.out.1.base _ _ hxi.1
            have HXI : Hid (x.2.b = decide (pre.length + 1 = L.length) ∧ pre.length + 1 ≤ L.length) := ⟨hbs, hxi.2⟩
            have y1 : w10.cell? ⟨w.heap.size + 1, 0, none⟩ = some (.slice q3 n3 d3) := hf10.b1.cell 0
            have y2 : w10.cell? ⟨w.heap.size + 1 + 1, 0, none⟩ = some (.slice q7 n7 d7) := hf10.b2.cell 0
            have y3 : w10.cell? ⟨w.heap.size + 1 + 1 + 1, 0, none⟩ = some (.bool false) := hf10.b3.cell 0
            have z1 : w10.frozen? ⟨w.heap.size + 1, 0, none⟩ = false := hf10.b1.frozen 0
            have z2 : w10.frozen? ⟨w.heap.size + 1 + 1, 0, none⟩ = false := hf10.b2.frozen 0
            have z3 : w10.frozen? ⟨w.heap.size + 1 + 1 + 1, 0, none⟩ = false := hf10.b3.frozen 0
            clear hb10 ht10 hf10 hxi hbs g0 HE9
            cases hxb : x.2.b with
            | false =>
              have hne : pre.length + 1 < L.length := by
                have h1 := HXI.out.1
                rw [hxb] at h1
                have h2 := of_decide_eq_false h1.symm
                have := HXI.out.2
                omega
              have HNE : Hid (pre.length + 1 < L.length) := hne
              clear hne y1 y2 y3 z1 z2 z3
              gi_wp2
              exact ⟨HE10.out.2.1.from _, HE10.out.2.2, by rw [List.length_append]; exact HNE.out, _, _, HE10.out.1⟩
            | true =>
              have hwl : pre ++ [x] = wl s g L := by
                have h1 := HXI.out.1
                rw [hxb] at h1
                have h2 := of_decide_eq_true h1.symm
                exact HPR.out.1.eq_of_length (by rw [wl_len, List.length_append]; exact h2)
              have HWL : Hid (pre ++ [x] = wl s g L) := hwl
              have n12 : ¬ (w.heap.size + 1 = w.heap.size + 1 + 1) := by omega
              have n13 : ¬ (w.heap.size + 1 = w.heap.size + 1 + 1 + 1) := by omega
              have n23 : ¬ (w.heap.size + 1 + 1 = w.heap.size + 1 + 1 + 1) := by omega
              clear hwl
              gi_wp2_with fail
              gi_region
              all_goals (
                gi_wp2
                obtain ⟨hfd, hkd⟩ := HE10.out.1.found rfl
                exact ⟨(HE10.out.2.1.trans hkd).from _, rfl, HWL.out, _, _, hfd⟩)
    · rw [if_pos (by rfl)]
      refine wp_rowN _ rfl x.2 rfl ?_
      refine hK _ _ ⟨fun _ => HS.out _ (by repeat (first | exact Tn.refl _ _ | exact t3.mono (fun y hy => mem_own2.2 (.inl (opt_toList.1 hy))) | refine Tn.alloc ?_ _ | refine Tn.drew ?_)), ?_⟩
      clear hK K
      try simp only [Act.put, List.setIfInBounds_toArray, List.set_cons_zero, List.set_cons_succ]
      refine wpAnyM_ready (rs := [2]) (by kernel_rfl) (by simp) ?_
      refine AllReadyM.cons (o := { dst := some 14, op := Op.buildSlice 43 1 #[(0, Operand.tmp 13)], type := 43, pos := _, after := #[{ on := 1, ground := Ground.data }], guard := none }) rfl (fun K hK => ?_) AllReadyM.nil
      · go_simp
        refine hK _ _ ⟨fun _ => HS.out _ (by repeat (first | exact Tn.refl _ _ | exact t3.mono (fun y hy => mem_own2.2 (.inl (opt_toList.1 hy))) | refine Tn.alloc ?_ _ | refine Tn.drew ?_)), ?_⟩
        clear hK K
        try simp only [Act.put, List.setIfInBounds_toArray, List.set_cons_zero, List.set_cons_succ]
        refine wpAnyM_ready (rs := [3]) (by kernel_rfl) (by simp) ?_
        refine AllReadyM.cons (o := { dst := some 15, op := Op.call { callee := Callee.builtin Builtin.append, args := #[Operand.tmp 12, Operand.tmp 14], argTypes := #[43, 43] }, type := 43, pos := _, after := #[{ on := 0, ground := Ground.data }, { on := 2, ground := Ground.data }], guard := none }) rfl (fun K hK => ?_) AllReadyM.nil
        · refine step_appK rfl _ _ _ rfl _ _ (by rfl) (by rfl) (HA1.out _ _ (by repeat (first | exact Tn.refl _ _ | refine Tn.alloc ?_ _ | refine Tn.drew ?_)) (by (have hel := els_one hdK (W.alloc (.cells x.2.cells.toArray 37)) 31 x.1; rw [World.size_alloc] at hel; exact hel))) ?_
          intro v3 w3' hP
          obtain ⟨o3, t3', k3⟩ := hP
          obtain ⟨q3, n3, d3, rfl⟩ : ∃ q n d, v3 = .slice q n d := by (obtain ⟨q, d, hv, -⟩ := Own.els hdK o3; exact ⟨q, _, d, hv⟩)
          have t3 : Tn u1.ownBlock.toList W w3' := Tn.trans (S := u1.ownBlock.toList) (by repeat (first | exact Tn.refl _ _ | refine Tn.alloc ?_ _ | refine Tn.drew ?_)) t3' (fun y hy => .inl hy)
          refine hK _ _ ⟨fun _ => HS.out _ (by repeat (first | exact Tn.refl _ _ | exact t3.mono (fun y hy => mem_own2.2 (.inl (opt_toList.1 hy))) | refine Tn.alloc ?_ _ | refine Tn.drew ?_)), ?_⟩
          clear hK K
          try simp only [Act.put, List.setIfInBounds_toArray, List.set_cons_zero, List.set_cons_succ]
          refine wpAnyM_ready (rs := [7]) (by kernel_rfl) (by simp) ?_
          refine AllReadyM.cons (o := { dst := some 19, op := Op.call { callee := Callee.builtin Builtin.append, args := #[Operand.tmp 16, Operand.tmp 18], argTypes := #[51, 51] }, type := 51, pos := _, after := #[{ on := 4, ground := Ground.data }, { on := 6, ground := Ground.data }, { on := 3, ground := Ground.chain }], guard := none }) rfl (fun K hK => ?_) AllReadyM.nil
          · refine step_appK rfl _ _ _ rfl _ _ (by rfl) (by rfl) (HA2.out _ _ (by repeat (first | exact t3 | refine Tn.alloc ?_ _ | refine Tn.drew ?_)) (Els.tn (S := u1.ownBlock.toList) (Els.tn (S := []) (els_one ndK _ 37 x.2) (by repeat (first | exact Tn.refl _ _ | refine Tn.alloc ?_ _ | refine Tn.drew ?_)) (by simp)) t3' (fun b o hb hm => by cases hb; exact HBN.out _ (by simp) (opt_toList.1 hm)))) ?_
            intro v7 w7 hP
            obtain ⟨o7, t7, k7⟩ := hP
            obtain ⟨q7, n7, d7, rfl⟩ : ∃ q n d, v7 = .slice q n d := by (obtain ⟨q, d, hv, -⟩ := Own.els ndK o7; exact ⟨q, _, d, hv⟩)
            have hG : Grw Hd.cells 2 31 Nod.cells 21 37 (w.heap.size + 4) W w7 u1 u2 (.slice q3 n3 d3) (.slice q7 n7 d7) (pre.map Prod.fst ++ [x.1]) (pre.map Prod.snd ++ [x.2]) := grw_end HF.out.two (by repeat (first | exact Tn.refl _ _ | refine Tn.alloc ?_ _ | refine Tn.drew ?_)) o3 t3' k3 (by repeat (first | exact Tn.refl _ _ | refine Tn.alloc ?_ _ | refine Tn.drew ?_)) o7 t7 k7
            have hTw : Tn (own2 u1 u2) W w7 := hG.tn
            refine hK _ _ ⟨fun _ => HS.out _ hTw, ?_⟩
            clear hK K
            try simp only [Act.put, List.setIfInBounds_toArray, List.set_cons_zero, List.set_cons_succ]
            have hs7 := HS.out _ hTw
            have y1 : w7.cell? ⟨w.heap.size + 1, 0, none⟩ = some u1 := hs7.1
            have y2 : w7.cell? ⟨w.heap.size + 1 + 1, 0, none⟩ = some u2 := hs7.2.1
            have y3 : w7.frozen? ⟨w.heap.size + 1, 0, none⟩ = false := HFZ.out w7 hTw _ (by simp)
            have y4 : w7.frozen? ⟨w.heap.size + 1 + 1, 0, none⟩ = false := HFZ.out w7 hTw _ (by simp)
            have yn : ¬ (w.heap.size + 1 = w.heap.size + 1 + 1) := by omega
            refine wpAnyM_ready (rs := [8]) (by kernel_rfl) (by simp) ?_
            refine AllReadyM.cons (o := { dst := none, op := Op.store 43 (Operand.tmp 4) (Operand.tmp 15), type := 0, pos := _, after := #[{ on := 3, ground := Ground.data }, { on := 7, ground := Ground.chain }, { on := 0, ground := Ground.phase }, { on := 1, ground := Ground.phase }, { on := 2, ground := Ground.phase }, { on := 3, ground := Ground.phase }, { on := 4, ground := Ground.textOnly Departure.inlinedCapture }, { on := 5, ground := Ground.textOnly Departure.lateStores }, { on := 6, ground := Ground.textOnly Departure.inlinedCapture }, { on := 7, ground := Ground.textOnly Departure.lateStoresUnsure }], guard := none }) rfl (fun K hK => ?_) AllReadyM.nil
            go_simp
            refine hK _ _ ⟨fun h => absurd h (by omega), ?_⟩
            clear hK K
            try simp only [Act.put, List.setIfInBounds_toArray, List.set_cons_zero, List.set_cons_succ]
            refine wpAnyM_ready (rs := [9]) (by kernel_rfl) (by simp) ?_
            refine AllReadyM.cons (o := { dst := none, op := Op.store 51 (Operand.tmp 5) (Operand.tmp 19), type := 0, pos := _, after := #[{ on := 7, ground := Ground.data }, { on := 8, ground := Ground.chain }, { on := 0, ground := Ground.phase }, { on := 1, ground := Ground.phase }, { on := 2, ground := Ground.phase }, { on := 3, ground := Ground.phase }, { on := 4, ground := Ground.phase }, { on := 5, ground := Ground.phase }, { on := 6, ground := Ground.phase }, { on := 7, ground := Ground.phase }, { on := 8, ground := Ground.phase }], guard := none }) rfl (fun K hK => ?_) AllReadyM.nil
            go_simp
            refine hK _ _ ⟨fun h => absurd h (by omega), ?_⟩
            clear hK K
            try simp only [Act.put, List.setIfInBounds_toArray, List.set_cons_zero, List.set_cons_succ]
            refine wpAnyM_done (by kernel_rfl) ?_ _
            clear hs7 y1 y2 y3 y4 yn
            obtain ⟨w9, hw9⟩ : ∃ w9, (w7.setCell ⟨w.heap.size + 1, 0, none⟩ (.slice q3 n3 d3)).setCell ⟨w.heap.size + 1 + 1, 0, none⟩ (.slice q7 n7 d7) = w9 := ⟨_, rfl⟩
            rw [hw9]
            obtain ⟨hF9, hk9, hp9, ht9⟩ := HF.out.grew hG hw9.symm
            have kn9 := HBX.out w9 ht9
            have HE9 : Hid (Fi w w9 (pre ++ [x]) (.slice q3 n3 d3) (.slice q7 n7 d7) false ∧ KeepsOthers W w9 ∧ KpF (w.heap.size + 1) (w.heap.size + 1 + 1) W w9 ∧ Bk w9 (bx + 1) 37 x.2.cells.toArray) := ⟨hF9, hk9, hp9, kn9⟩
            have g0 : w9.cell? ⟨w.heap.size, 0, none⟩ = some (.func (.func 96) #[] #[]) := hF9.bi.cell 0
            clear hF9 hk9 hp9 ht9 kn9 hG hTw o3 t3 t3' k3 o7 t7 k7 hw9 hS
            obtain ⟨xw, hxw⟩ : ∃ xw, x.2.w = xw := ⟨_, rfl⟩
            gi_wp2_with (refine wpListIn_load_nd (by rfl) _ rfl (bx + 1) _ x.2 rfl HE9.out.2.2.2 ?_; rw [hxw])
            refine ⟨trivial, ?_⟩
            rw [← hxw]
            refine (CallsIn.inRound l (callsIn_wide.2 (isBase_any x.2 _))).mono ?_
            rintro r w10 ⟨rfl, hb10⟩
            have ht10 : Tn [] w9 w10 := Tn.of_below hb10 []
            have hf10 := HE9.out.1.tn ht10 (by simp)
            have HE10 : Hid (Fi w w10 (pre ++ [x]) (.slice q3 n3 d3) (.slice q7 n7 d7) false ∧ KeepsOthers W w10 ∧ KpF (w.heap.size + 1) (w.heap.size + 1 + 1) W w10) := ⟨hf10, HE9.out.2.1.trans (keeps_tn ht10 (by simp)), HE9.out.2.2.1.t ⟨ht10.size, fun j ob hj _ _ _ _ => (ht10.block j (Array.getElem?_eq_some_iff.1 hj).1 (by simp)).trans hj, fun j hj => .inl (hj.same (ht10.block _ (by have := HE9.out.1.size; omega) (by simp)) (ht10.block _ (by have := HE9.out.1.size; omega) (by simp)))⟩⟩
            have hxi : L[pre.length]? = some x.2 ∧ pre.length + 1 ≤ L.length := by
              have h1 := HPR.out.1
              obtain ⟨t, ht⟩ := h1
              have h2 : (wl s g L)[pre.length]? = some x := by rw [← ht]; simp
              have h3 := HPR.out.2
              have h4 := wl_at (s := s) (g := g) (List.getElem?_eq_getElem h3)
              rw [h2] at h4
              refine ⟨?_, h3⟩
              rw [List.getElem?_eq_getElem h3]
              exact congrArg some (congrArg Prod.snd (Option.some.inj h4)).symm
            have hbs := HL.out.1.base _ _ hxi.1
            have HXI : Hid (x.2.b = decide (pre.length + 1 = L.length) ∧ pre.length + 1 ≤ L.length) := ⟨hbs, hxi.2⟩
            have y1 : w10.cell? ⟨w.heap.size + 1, 0, none⟩ = some (.slice q3 n3 d3) := hf10.b1.cell 0
            have y2 : w10.cell? ⟨w.heap.size + 1 + 1, 0, none⟩ = some (.slice q7 n7 d7) := hf10.b2.cell 0
            have y3 : w10.cell? ⟨w.heap.size + 1 + 1 + 1, 0, none⟩ = some (.bool false) := hf10.b3.cell 0
            have z1 : w10.frozen? ⟨w.heap.size + 1, 0, none⟩ = false := hf10.b1.frozen 0
            have z2 : w10.frozen? ⟨w.heap.size + 1 + 1, 0, none⟩ = false := hf10.b2.frozen 0
            have z3 : w10.frozen? ⟨w.heap.size + 1 + 1 + 1, 0, none⟩ = false := hf10.b3.frozen 0
            clear hb10 ht10 hf10 hxi hbs g0 HE9
            cases hxb : x.2.b with
            | false =>
              have hne : pre.length + 1 < L.length := by
                have h1 := HXI.out.1
                rw [hxb] at h1
                have h2 := of_decide_eq_false h1.symm
                have := HXI.out.2
                omega
              have HNE : Hid (pre.length + 1 < L.length) := hne
              clear hne y1 y2 y3 z1 z2 z3
              gi_wp2
              exact ⟨HE10.out.2.1.from _, HE10.out.2.2, by rw [List.length_append]; exact HNE.out, _, _, HE10.out.1⟩
            | true =>
              have hwl : pre ++ [x] = wl s g L := by
                have h1 := HXI.out.1
                rw [hxb] at h1
                have h2 := of_decide_eq_true h1.symm
                exact HPR.out.1.eq_of_length (by rw [wl_len, List.length_append]; exact h2)
              have HWL : Hid (pre ++ [x] = wl s g L) := hwl
              have n12 : ¬ (w.heap.size + 1 = w.heap.size + 1 + 1) := by omega
              have n13 : ¬ (w.heap.size + 1 = w.heap.size + 1 + 1 + 1) := by omega
              have n23 : ¬ (w.heap.size + 1 + 1 = w.heap.size + 1 + 1 + 1) := by omega
              clear hwl
              gi_wp2_with fail
              gi_region
              all_goals (
                gi_wp2
                obtain ⟨hfd, hkd⟩ := HE10.out.1.found rfl
                exact ⟨(HE10.out.2.1.trans hkd).from _, rfl, HWL.out, _, _, hfd⟩)
end Go.Proofs.YtoehlgigidgfpaaGreat

namespace Go.Proofs.YtoehlgigidgfpaaGreat
open Go.RowKit Go.Shelf
set_option linter.unusedVariables false
set_option linter.unusedSimpArgs false
set_option maxRecDepth 100000
set_option linter.unusedSectionVars false

section
variable {ops : Array Oper} {rest : List Oper} {o : Oper} {a : Act} {w : World} {Q : Exit → Act → World → Prop}
/-- A node is stored whole into a block of its own. -/
theorem wpList_store_nd (hg : o.guard = none) (x y : Operand) (ho : o.op = .store 37 x y) (b : Nat) (t : TypeId) (old : Array Value) (nd : Nod)
    (hx : a.eval x = .pointer (some ⟨b, 0, none⟩)) (hy : a.eval y = nd.w) (hb : Bk w b t old) (hs : old.size = 21)
    (h : wpList Tryz.prog ops Q rest (a.put o.dst undef) (w.setRow b nd.cells.toArray)) : wpList Tryz.prog ops Q (o :: rest) a w :=
  wpList_store_row hg 37 x y ho b nd.cells.toArray hx (hy.trans rfl) t old hb (by simpa [nd.len] using nd_info) (by simpa [nd.len] using hs) (all_oneCell_toArray nd.one) h

/-- A node is loaded whole. -/
theorem wpList_load_nd (hg : o.guard = none) (x : Operand) (ho : o.op = .load 37 x) (b i : Nat) (nd : Nod)
    (hx : a.eval x = .pointer (some ⟨b, i, none⟩)) (hb : w.rangeAt b i nd.cells)
    (h : wpList Tryz.prog ops Q rest (a.put o.dst nd.w) w) : wpList Tryz.prog ops Q (o :: rest) a w :=
  wpList_load_mid hg 37 x ho b i hx nd.cells _ hb Tryz.underlying37 rfl nd_info h

theorem bk_range {b : Nat} {t : TypeId} {nd : Nod} (h : Bk w b t nd.cells.toArray) : w.rangeAt b 0 nd.cells := fun j v hv => by
  rw [Nat.zero_add, h.cell j]
  simpa using hv
end

variable [Inhabited Nod]

theorem walk_any (w : World) (B : Nat) (s g : Int) (most : Int) :
    Calls Tryz.prog 95 #[.func (.func 59) #[.pointer (some ⟨B, 0, none⟩)] #[], .agg #[.int .i64 s, .int .i64 g], .int .i64 most] w fun e w' => e = .returned (.func (.func 116) #[] #[.pointer (some ⟨w.heap.size + 1, 0, none⟩), .pointer (some ⟨w.heap.size + 1 + 1, 0, none⟩), .pointer (some ⟨w.heap.size, 0, none⟩)]) ∧
      Tn [] w w' ∧ Bk w' (w.heap.size + 1) 31 #[.int .i64 s, .int .i64 g] ∧ Bk w' (w.heap.size + 1 + 1) 3 #[.int .i64 most] ∧ Bk w' w.heap.size 61 #[.func (.func 59) #[.pointer (some ⟨B, 0, none⟩)] #[]] := by
  have hmf : ∀ (fn : Fn) (first cap : Array Value) (w : World), (Instr.makeFunc fn first cap).run Tryz.prog w = .ok (.func fn first cap) w := fun _ _ _ _ => rfl
  have k0 := Bk.new w 61 #[.func (.func 59) #[.pointer (some ⟨B, 0, none⟩)] #[]]
  have k1 := Bk.new (w.alloc (.cells #[.func (.func 59) #[.pointer (some ⟨B, 0, none⟩)] #[]] 61)) 31 #[.int .i64 s, .int .i64 g]
  have k2 := Bk.new ((w.alloc (.cells #[.func (.func 59) #[.pointer (some ⟨B, 0, none⟩)] #[]] 61)).alloc (.cells #[.int .i64 s, .int .i64 g] 31)) 3 #[.int .i64 most]
  simp only [World.size_alloc] at k1 k2
  have hpost : ∃ w3, (((w.alloc (.cells #[.func (.func 59) #[.pointer (some ⟨B, 0, none⟩)] #[]] 61)).alloc (.cells #[.int .i64 s, .int .i64 g] 31)).alloc (.cells #[.int .i64 most] 3)) = w3 ∧ Tn [] w w3 ∧ Bk w3 (w.heap.size + 1) 31 #[.int .i64 s, .int .i64 g] ∧ Bk w3 (w.heap.size + 1 + 1) 3 #[.int .i64 most] ∧ Bk w3 w.heap.size 61 #[.func (.func 59) #[.pointer (some ⟨B, 0, none⟩)] #[]] :=
    ⟨_, rfl, (((Tn.refl _ _).alloc _).alloc _).alloc _, k1.alloc _, k2, (k0.alloc _).alloc _⟩
  obtain ⟨w3, hw3, hp⟩ := hpost
  have HP : Hid _ := hp
  clear hp k0 k1 k2
  go_enter Tryz.func95, Tryz.ntmps95
  go_wp2
  go_ret
  exact ⟨rfl, HP.out⟩

set_option maxHeartbeats 2000000 in
/-- The change of a node. -/
theorem take1_any (x : Nod) (w : World) : Calls Tryz.prog 97 #[x.v] w fun e w' => e = .returned x.D.val ∧ Below w.heap.size w w' := by
  go_enter Tryz.func97, Tryz.ntmps97
  go_wp2
  refine bodyPost_ret (results_one (T' := 35) (cs := x.D.cells) rfl rfl dl_agg dl_size rfl (Bk.new1 _ _ _ _)) rfl ?_
  exact ⟨rfl, ((Below.refl _ _).alloc (Nat.le_refl _) _).alloc (by simp) _⟩

set_option maxHeartbeats 4000000 in
theorem eachN_any (p : Option Addr) (n c : Nat) (Ls : List Nod) (w : World) (hn : Ls.length = n) (hl : n ≤ 65536) (hE : Els Nod.cells 21 w p Ls) :
    Calls Tryz.prog 98 #[.slice p n c, .func (.func 97) #[] #[]] w fun e w' => ∃ v, e = .returned v ∧ Own Dm.cells 12 35 w' w.heap.size v (Ls.map (·.D)) ∧ Below w.heap.size w w' := by
  have eg : ∀ args w, (callFunc 97 args).run Tryz.prog w = .ok (.enter 97 args) w := enters_of Tryz.func97 (by kernel_rfl) rfl
  have HN : Hid (Ls.length = n) := hn
  have HE : Hid (Els Nod.cells 21 w p Ls) := hE
  clear hn hE
  go_enter Tryz.func98, Tryz.ntmps98
  go_wp2_with fail
  go_loopw [5, 10] (fun v i wr => ∃ k : Nat, k ≤ n ∧ i = .int .i64 (k : Int) ∧ Hid (Own Dm.cells 12 35 wr w.heap.size v ((Ls.take k).map (·.D)) ∧ Below w.heap.size w wr)) (fun _ i _ => n - (intOf i).toNat)
  case atStart => exact ⟨0, Nat.zero_le _, rfl, Own.nil _ _ _, Below.refl _ _⟩
  case round =>
    obtain ⟨k, hk, rfl, HS⟩ := hrel
    by_cases hlt : k < n
    · have hli : (k : Int) < (n : Int) := by omega
      have hk0 : (0 : Int) ≤ (k : Int) := by omega
      have hEr : Els Nod.cells 21 wr p Ls := HE.out.below HS.out.2 (Nat.le_refl _)
      obtain ⟨b, o, x, rfl, hx, hc⟩ := hEr.at (j := k) (by rw [HN.out]; exact hlt)
      have HR : Hid (wr.rangeAt b (o + k * 21) x.cells) := hc
      obtain ⟨wz, hwz⟩ : ∃ wz, wr.alloc (.cells #[.bool false, .bool false, .string ⟨#[]⟩, .string ⟨#[]⟩, .int .i64 0, .slice none 0 0, .int .i64 0, .string ⟨#[]⟩, .int .i64 0, .int .i64 0, .int .i64 0, .string ⟨#[]⟩, .int .i64 0, .bool false, .string ⟨#[]⟩, .string ⟨#[]⟩, .int .i64 0, .slice none 0 0, .int .i64 0, .int .i64 0, .int .i64 0] 37) = wz := ⟨_, rfl⟩
      have HZ : Hid (Bk wz wr.heap.size 37 #[.bool false, .bool false, .string ⟨#[]⟩, .string ⟨#[]⟩, .int .i64 0, .slice none 0 0, .int .i64 0, .string ⟨#[]⟩, .int .i64 0, .int .i64 0, .int .i64 0, .string ⟨#[]⟩, .int .i64 0, .bool false, .string ⟨#[]⟩, .string ⟨#[]⟩, .int .i64 0, .slice none 0 0, .int .i64 0, .int .i64 0, .int .i64 0]) := by rw [← hwz]; exact Bk.new _ _ _
      obtain ⟨wn, hwn⟩ : ∃ wn, wz.setRow wr.heap.size x.cells.toArray = wn := ⟨_, rfl⟩
      have hw6 := nd_laid hwz hwn
      have HNB : Hid (Bk wn wr.heap.size 37 x.cells.toArray ∧ Below wr.heap.size wr wn) := by rw [hw6]; exact ⟨Bk.new _ _ _, (Below.refl _ _).alloc (Nat.le_refl _) _⟩
      have HX : Hid (Ls[k]? = some x) := hx
      clear hw6 hEr hc hx
      obtain ⟨xw, hxw⟩ : ∃ xw, x.w = xw := ⟨_, rfl⟩
      go_wp2_with (first
        | (refine wpList_load_nd rfl _ rfl b (o + k * 21) x rfl HR.out ?_; rw [hxw])
        | (refine wpList_store_nd rfl _ _ rfl wr.heap.size _ _ x rfl hxw.symm HZ.out rfl ?_; rw [hwn])
        | (refine wpList_load_nd rfl _ rfl wr.heap.size 0 x rfl (bk_range HNB.out.1) ?_; rw [hxw]))
      rw [← hxw]
      refine (take1_any x _).mono ?_
      rintro e w8 ⟨rfl, hb8⟩
      have HB8 : Hid (Below w.heap.size w w8 ∧ Below wr.heap.size wr w8) := ⟨HS.out.2.trans ((HNB.out.2.trans (hb8.mono HNB.out.2.size)).mono HS.out.2.size), HNB.out.2.trans (hb8.mono HNB.out.2.size)⟩
      clear hb8
      have HAP : Hid (∀ W' E, Tn [] w8 W' → Els Dm.cells 12 W' (some ⟨E, 0, none⟩) [x.D] → ∃ v' w', (Builtin.append_ #[64, 64] 64 #[u5, .slice (some ⟨E, 0, none⟩) 1 1]).run Tryz.prog W' = .ok v' w' ∧ Own Dm.cells 12 35 w' w.heap.size v' ((Ls.take k).map (·.D) ++ [x.D]) ∧ Tn u5.ownBlock.toList W' w' ∧ (∀ j, v'.ownBlock = some j → u5.ownBlock = some j ∨ W'.heap.size ≤ j)) := fun W' E ht hel => by
        have ho := (HS.out.1.below HB8.out.2 (Nat.le_refl _)).tn ht (by simp)
        refine app_entryB dmK Tryz.underlying64 dminfo rfl ho hel (by have := ht.size; have := HB8.out.1.size; omega) ?_ ?_
        · rw [List.length_map, List.length_take]; unfold maxLen; omega
        · rw [List.length_map, List.length_take]; omega
      have hsu : (Ls.take (k + 1)).map (·.D) = (Ls.take k).map (·.D) ++ [x.D] := by rw [take_snoc HX.out, List.map_append, List.map_singleton]
      have HSU : Hid ((Ls.take (k + 1)).map (·.D) = (Ls.take k).map (·.D) ++ [x.D]) := hsu
      clear hsu
      go_wp2_with (at_builtin; refine app_listK _ rfl _ _ _ rfl _ _ (by rfl) (by rfl) (HAP.out _ _ ((Tn.refl _ _).alloc _) (els_one dmK _ 35 x.D)) ?_; intro v9 w9 hP; have HP : Hid _ := hP; clear hP)
      go_roundw
      case rel =>
        obtain ⟨q1, q2, q3⟩ := HP.out
        have hlo : ∀ y ∈ u5.ownBlock.toList, w.heap.size ≤ y := fun y hy => (HS.out.1.blk (opt_toList.1 hy)).1
        have hb9 : Below w.heap.size w w9 := HB8.out.1.trans ((((Tn.refl u5.ownBlock.toList w8).alloc _).trans q2 (fun y hy => .inl hy)).below HB8.out.1.size hlo)
        have hfin : Own Dm.cells 12 35 w9 w.heap.size v9 ((Ls.take (k + 1)).map (·.D)) ∧ Below w.heap.size w w9 := by rw [HSU.out]; exact ⟨q1, hb9⟩
        exact ⟨k + 1, hlt, by go_num, hfin⟩
      case measure => simp [intOf]; omega
    · have hli : ¬ (k : Int) < (n : Int) := by omega
      obtain rfl : k = n := by omega
      have HS2 : Hid (Own Dm.cells 12 35 wr w.heap.size u5 (Ls.map (·.D)) ∧ Below w.heap.size w wr) := by
        have := HS.out
        rwa [← HN.out, List.take_length] at this
      clear HS
      go_wp2
      go_ret
      exact ⟨_, rfl, HS2.out⟩
end Go.Proofs.YtoehlgigidgfpaaGreat

namespace Go.Proofs.YtoehlgigidgfpaaGreat
open Go.RowKit Go.Shelf
set_option linter.unusedVariables false
set_option linter.unusedSimpArgs false
set_option maxRecDepth 100000
set_option linter.unusedSectionVars false

theorem pt_agg (w : World) : (isAgg 124).run Tryz.prog w = .ok true w := by kernel_rfl
theorem pt_size (w : World) : (sizeOf 124).run Tryz.prog w = .ok 7 w := by kernel_rfl

variable [Inhabited Nod]

/-- The value of a chain's parts. -/
abbrev ptv (v1 v2 : Value) (P : Pm) : Value := .agg #[v1, v2, .bool P.g.leaf, .string P.g.lo, .string P.g.hi, .int .i64 P.g.r, .slice P.p P.n P.c]

/-- New blocks alone have turned. -/
theorem Tn.nil_of {S : List Nat} {w w' : World} (h : Tn S w w') (hS : ∀ x ∈ S, w.heap.size ≤ x) : Tn [] w w' :=
  ⟨h.os, h.tape, h.output, h.size, fun k hk _ => h.block k hk (fun hm => by have := hS k hm; omega)⟩

set_option maxHeartbeats 4000000 in
theorem take_good {m : Nat} {w : World} {B : Nat} {a : Ar Nod} {lv av : List Nat} (h : Chs m w B a lv av) (s g : Int) (L : List Nod) (hL : ChnN a s g L) (hlen : L.length ≤ live a.us) (k : Nat) (hk : L.length = k + 1) (X : Nod) (hX : L[k]? = some X) :
    Calls Tryz.prog 61 #[.pointer (some ⟨B, 0, none⟩), .agg #[.int .i64 s, .int .i64 g]] w fun e w' => ∃ v1 v2, e = .returned (.tuple #[ptv v1 v2 X.P, .int .i64 0]) ∧ Own Hd.cells 2 31 w' w.heap.size v1 (hdn s g L) ∧ Own Dm.cells 12 35 w' w.heap.size v2 ((L.take k).map (·.D)) ∧ Tn [] w w' := by
  have hmf : ∀ (fn : Fn) (first cap : Array Value) (w : World), (Instr.makeFunc fn first cap).run Tryz.prog w = .ok (.func fn first cap) w := fun _ _ _ _ => rfl
  obtain ⟨w0, hw0⟩ : ∃ w0, (w.alloc (.cells #[.int .i64 s, .int .i64 g] 31)).alloc (.cells #[.slice none 0 0, .slice none 0 0, .bool false, .string ⟨#[]⟩, .string ⟨#[]⟩, .int .i64 0, .slice none 0 0] 124) = w0 := ⟨_, rfl⟩
  have HT0 : Hid (Tn [] w w0) := by rw [← hw0]; exact ((Tn.refl _ _).alloc _).alloc _
  have HA0 : Hid (Bk w0 w.heap.size 31 #[.int .i64 s, .int .i64 g]) := by rw [← hw0]; exact (Bk.new _ _ _).alloc _
  have HR0 : Hid (Bk w0 (w.heap.size + 1) 124 #[.slice none 0 0, .slice none 0 0, .bool false, .string ⟨#[]⟩, .string ⟨#[]⟩, .int .i64 0, .slice none 0 0]) := by rw [← hw0]; exact Bk.new1 _ _ _ _
  have HC : Hid (Chs m w B a lv av) := h
  have hll : live a.us ≤ 65536 := by
    obtain ⟨bs, ⟨uv, fv, fr, -, h1⟩, h2, h3⟩ := h.ar
    have := live_le a.us
    have := h1.le
    have := h1.s2
    omega
  have HLL : Hid (ChnN a s g L ∧ L.length ≤ min (live a.us + 1) 65536 ∧ L.length = k + 1 ∧ L[k]? = some X ∧ k + 1 ≤ 65536) := ⟨hL, by omega, hk, hX, by omega⟩
  have b0 : w0.cell? ⟨w.heap.size, 0, none⟩ = some (.int .i64 s) := HA0.out.cell 0
  have b1 : w0.cell? ⟨w.heap.size, 1, none⟩ = some (.int .i64 g) := HA0.out.cell 1
  clear h hL hlen hk hX hll
  go_enter Tryz.func61, Tryz.ntmps61
  go_wp2_with fail
  refine (chmade_ok (HC.out.quiet HT0.out)).mono ?_
  rintro e w1 ⟨rfl, rfl⟩
  clear hw0
  go_wp2_with fail
  refine (longest_any (HC.out.quiet HT0.out)).mono ?_
  rintro e w2 ⟨rfl, ht2⟩
  generalize hmo : min (live a.us + 1) 65536 = most at *
  have HT2 : Hid (Tn [] w w2) := HT0.out.trans ht2 (by simp)
  have HA2 : Hid (Bk w2 w.heap.size 31 #[.int .i64 s, .int .i64 g]) := HA0.out.tn ht2 (by simp)
  have HR2 : Hid (Bk w2 (w.heap.size + 1) 124 #[.slice none 0 0, .slice none 0 0, .bool false, .string ⟨#[]⟩, .string ⟨#[]⟩, .int .i64 0, .slice none 0 0]) := HR0.out.tn ht2 (by simp)
  clear b0 b1 ht2
  have b0 : w2.cell? ⟨w.heap.size, 0, none⟩ = some (.int .i64 s) := HA2.out.cell 0
  have b1 : w2.cell? ⟨w.heap.size, 1, none⟩ = some (.int .i64 g) := HA2.out.cell 1
  go_wp2_with fail
  refine (walk_any w2 B s g most).mono ?_
  rintro e w3 ⟨rfl, ht3, kh, km, kg⟩
  have HT3 : Hid (Tn [] w w3) := HT2.out.trans ht3 (by simp)
  have HR3 : Hid (Bk w3 (w.heap.size + 1) 124 #[.slice none 0 0, .slice none 0 0, .bool false, .string ⟨#[]⟩, .string ⟨#[]⟩, .int .i64 0, .slice none 0 0]) := HR2.out.tn ht3 (by simp)
  have HFD : Hid (∃ uv fv fr, Wk w3 B w2.heap.size (w2.heap.size + 1 + 1) uv fv fr a most) := by
    obtain ⟨bs, ⟨uv, fv, fr, -, h1⟩, h2, h3⟩ := (HC.out.quiet HT3.out).ar
    exact ⟨uv, fv, fr, h1, kg, km⟩
  have HKH : Hid (Bk w3 (w2.heap.size + 1) 31 #[.int .i64 s, .int .i64 g]) := kh
  clear b0 b1 ht3 kh km kg
  go_wp2_with fail
  obtain ⟨uv, fv, fr, hwk⟩ := HFD.out
  refine (find_good HLL.out.1 HLL.out.2.1 (by rw [← hmo]; omega) HKH.out hwk).mono ?_
  rintro e w5 ⟨v1, v2, rfl, htw, hb5⟩
  clear hwk
  have HT5 : Hid (Tn [] w w5) := HT3.out.trans (Tn.of_below hb5 []) (by simp)
  have HR5 : Hid (Bk w5 (w.heap.size + 1) 124 #[.slice none 0 0, .slice none 0 0, .bool false, .string ⟨#[]⟩, .string ⟨#[]⟩, .int .i64 0, .slice none 0 0]) := HR3.out.tn (Tn.of_below hb5 []) (by simp)
  have HZ3 : Hid (w3.heap.size ≤ w5.heap.size ∧ w.heap.size + 1 < w3.heap.size) := ⟨hb5.size, HR3.out.lt⟩
  have HO5 : Hid (Own Hd.cells 2 31 w5 w3.heap.size v1 (hdn s g L) ∧ w.heap.size ≤ w3.heap.size) := ⟨htw.o1, HT3.out.size⟩
  obtain ⟨q1, d1, hv1, -⟩ := htw.o1.els hdK
  obtain ⟨q2, d2, hv2, hE2, -, hle2⟩ := htw.o2.els ndK
  rw [hdn_len, HLL.out.2.2.1] at hv1
  rw [HLL.out.2.2.1] at hv2 hle2
  subst hv1 hv2
  obtain ⟨b, o, x, hq, hx, hc⟩ := hE2.at (j := k) (by rw [HLL.out.2.2.1]; omega)
  rw [HLL.out.2.2.2.1] at hx
  cases hx
  subst hq
  have HE5 : Hid (Els Nod.cells 21 w5 (some ⟨b, o, none⟩) (L.take k) ∧ (L.take k).length = k ∧ k ≤ 65536) := ⟨hE2.take k, by rw [List.length_take, HLL.out.2.2.1]; omega, by have := HLL.out; omega⟩
  have HPG : Hid (∀ W', Tn [] w5 W' → W'.cell? ⟨b, o + k * 21 + 1, none⟩ = some (.bool X.P.g.leaf) ∧ W'.cell? ⟨b, o + k * 21 + 2, none⟩ = some (.string X.P.g.lo) ∧ W'.cell? ⟨b, o + k * 21 + 3, none⟩ = some (.string X.P.g.hi) ∧ W'.cell? ⟨b, o + k * 21 + 4, none⟩ = some (.int .i64 X.P.g.r) ∧ W'.cell? ⟨b, o + k * 21 + 5, none⟩ = some (.slice X.P.p X.P.n X.P.c)) := fun W' ht => by
    have hlt : b < w5.heap.size := World.block_lt_of_cell? w5 _ (hc 1 _ rfl)
    have e := ht.block b hlt (by simp)
    have c1 := hc 1 _ rfl
    have c2 := hc 2 _ rfl
    have c3 := hc 3 _ rfl
    have c4 := hc 4 _ rfl
    have c5 := hc 5 _ rfl
    simp only [World.cell?, e] at *
    exact ⟨c1, c2, c3, c4, c5⟩
  obtain ⟨p1, p2, p3, p4, p5⟩ := HPG.out w5 (Tn.refl _ _)
  have HNB : Hid (¬ (w.heap.size + 1 = b)) := by
    have h1 := (htw.o2.blk (b := b) rfl).1
    have := HZ3.out
    intro e
    omega
  have hkd : k ≤ d2 := by omega
  have hk0 : (0 : Int) ≤ (k : Int) := by omega
  have hkk : (k : Int) < ((k + 1 : Nat) : Int) := by omega
  have hk9 : k + 1 ≤ 65536 := HLL.out.2.2.2.2
  clear hb5 htw hE2 hle2 hc
  go_wp2_with fail
  generalize hkn : k + 1 = n at *
  have hki : (k : Int) < (n : Int) := by omega
  have hkn' : k < n := by omega
  have HDR : Hid (Tn [] w5 w5.drew) := (Tn.refl _ _).drew
  go_region_held3 (fun w' => w'.cell? ⟨b, o + k * 21 + 1, none⟩ = some (.bool X.P.g.leaf) ∧ w'.cell? ⟨b, o + k * 21 + 2, none⟩ = some (.string X.P.g.lo) ∧ w'.cell? ⟨b, o + k * 21 + 3, none⟩ = some (.string X.P.g.hi) ∧ w'.cell? ⟨b, o + k * 21 + 4, none⟩ = some (.int .i64 X.P.g.r) ∧ w'.cell? ⟨b, o + k * 21 + 5, none⟩ = some (.slice X.P.p X.P.n X.P.c)) (go_keep) (first
    | (go_at_call 98
       refine (eachN_any (some ⟨b, o, none⟩) k d2 (L.take k) w5.drew HE5.out.2.1 HE5.out.2.2 (HE5.out.1.tn (S := []) HDR.out (by simp))).mono ?_
       rintro e w6 ⟨v3, rfl, ho6, hb6⟩
       have ht6 : Tn [] w5 w6 := HDR.out.trans (Tn.of_below hb6 []) (by simp)
       have HT6 : Hid (Tn [] w w6) := HT5.out.trans ht6 (by simp)
       have HR6 : Hid (Bk w6 (w.heap.size + 1) 124 #[.slice none 0 0, .slice none 0 0, .bool false, .string ⟨#[]⟩, .string ⟨#[]⟩, .int .i64 0, .slice none 0 0]) := HR5.out.tn ht6 (by simp)
       have HO6 : Hid (Own Hd.cells 2 31 w6 w3.heap.size (.slice q1 n d1) (hdn s g L) ∧ Own Dm.cells 12 35 w6 w5.heap.size v3 ((L.take k).map (·.D)) ∧ w5.heap.size ≤ w6.heap.size) := ⟨HO5.out.1.tn ht6 (by simp), ho6, ht6.size⟩
       obtain ⟨q3, n3, d3, rfl⟩ : ∃ q n d, v3 = .slice q n d := by (obtain ⟨q, d, hv, -⟩ := Own.els dmK ho6; exact ⟨q, _, d, hv⟩)
       clear p1 p2 p3 p4 p5
       obtain ⟨p1, p2, p3, p4, p5⟩ := HPG.out w6 ht6
       have x0 : w6.cell? ⟨w.heap.size + 1, 0, none⟩ = some (.slice none 0 0) := HR6.out.cell 0
       have x1 : w6.cell? ⟨w.heap.size + 1, 1, none⟩ = some (.slice none 0 0) := HR6.out.cell 1
       have x2 : w6.cell? ⟨w.heap.size + 1, 2, none⟩ = some (.bool false) := HR6.out.cell 2
       have x3 : w6.cell? ⟨w.heap.size + 1, 3, none⟩ = some (.string ⟨#[]⟩) := HR6.out.cell 3
       have x4 : w6.cell? ⟨w.heap.size + 1, 4, none⟩ = some (.string ⟨#[]⟩) := HR6.out.cell 4
       have x5 : w6.cell? ⟨w.heap.size + 1, 5, none⟩ = some (.int .i64 0) := HR6.out.cell 5
       have x6 : w6.cell? ⟨w.heap.size + 1, 6, none⟩ = some (.slice none 0 0) := HR6.out.cell 6
       have f0 := HR6.out.frozen 0
       have f1 := HR6.out.frozen 1
       have f2 := HR6.out.frozen 2
       have f3 := HR6.out.frozen 3
       have f4 := HR6.out.frozen 4
       have f5 := HR6.out.frozen 5
       have f6 := HR6.out.frozen 6
       have nb : ¬ (w.heap.size + 1 = b) := HNB.out
       have nb' : ¬ (b = w.heap.size + 1) := fun e => HNB.out e.symm
       clear ho6 hb6 ht6))
  clear p1 p2 p3 p4 p5 x0 x1 x2 x3 x4 x5 x6 f0 f1 f2 f3 f4 f5 f6 nb nb'
  go_wp2
  refine bodyPost_ret (results_two (T' := 124) (cs := [.slice q1 n d1, .slice q3 n3 d3, .bool X.P.g.leaf, .string X.P.g.lo, .string X.P.g.hi, .int .i64 X.P.g.r, .slice X.P.p X.P.n X.P.c]) rfl rfl pt_agg pt_size rfl (by exact (((((((HR6.out.set 0 _).set 1 _).set 2 _).set 3 _).set 4 _).set 5 _).set 6 _))) rfl ?_
  obtain ⟨W7, hW7⟩ : ∃ W7, W7 = (((((((w6.setCell ⟨w.heap.size + 1, 0, none⟩ (.slice q1 n d1)).setCell ⟨w.heap.size + 1, 1, none⟩ (.slice q3 n3 d3)).setCell ⟨w.heap.size + 1, 2, none⟩ (.bool X.P.g.leaf)).setCell ⟨w.heap.size + 1, 3, none⟩ (.string X.P.g.lo)).setCell ⟨w.heap.size + 1, 4, none⟩ (.string X.P.g.hi)).setCell ⟨w.heap.size + 1, 5, none⟩ (.int .i64 X.P.g.r)).setCell ⟨w.heap.size + 1, 6, none⟩ (.slice X.P.p X.P.n X.P.c)) := ⟨_, rfl⟩
  rw [← hW7]
  have t7 : Tn [w.heap.size + 1] w6 W7 := by
    rw [hW7]
    exact (((((((Tn.refl _ _).setCell (.inl (by simp)) _).setCell (.inl (by simp)) _).setCell (.inl (by simp)) _).setCell (.inl (by simp)) _).setCell (.inl (by simp)) _).setCell (.inl (by simp)) _).setCell (.inl (by simp)) _
  clear hW7
  have hz3 := HZ3.out
  have hz5 := HR3.out.lt
  obtain ⟨o1, o2, hz⟩ := HO6.out
  have n1 : ∀ j, (Value.slice q1 n d1).ownBlock = some j → j ∉ [w.heap.size + 1] := fun j hj hm => by
    simp only [List.mem_cons, List.not_mem_nil, or_false] at hm
    have := (o1.blk hj).1
    omega
  have n2 : ∀ j, (Value.slice q3 n3 d3).ownBlock = some j → j ∉ [w.heap.size + 1] := fun j hj hm => by
    simp only [List.mem_cons, List.not_mem_nil, or_false] at hm
    have := (o2.blk hj).1
    omega
  exact ⟨_, _, rfl, (o1.tn t7 n1).mono (by omega), (o2.tn t7 n2).mono (by omega), (HT6.out.mono (by simp)).trans t7 (fun x hx => .inl hx) |>.nil_of (by intro x hx; simp only [List.mem_cons, List.not_mem_nil, or_false] at hx; omega)⟩
end Go.Proofs.YtoehlgigidgfpaaGreat

namespace Go.Proofs.YtoehlgigidgfpaaGreat
open Go.RowKit Go.Sort
set_option linter.unusedVariables false
set_option maxRecDepth 100000

/-- What is found of a key, in entries in whatever order. -/
def Pg.Fnd (leaf : Bool) (l : List En) (key : ByteArray) (out : Option En) : Prop :=
  (leaf = true → out = Pg.find true l key) ∧
  (leaf = false → (∃ (k : Nat) (x : En), out = some x ∧ l[k]? = some x ∧ Ky.lt key x.key = false ∧ ∀ (j : Nat) (y : En), k < j → l[j]? = some y → Ky.lt key y.key = true) ∨ (out = none ∧ ∀ (j : Nat) (y : En), l[j]? = some y → Ky.lt key y.key = true))

theorem Pg.Fnd.one {leaf : Bool} {l : List En} {key : ByteArray} {a b : Option En} (h1 : Pg.Fnd leaf l key a) (h2 : Pg.Fnd leaf l key b) : a = b := by
  cases leaf with
  | true => rw [h1.1 rfl, h2.1 rfl]
  | false =>
    rcases h1.2 rfl with ⟨k, x, rfl, hk, hx, hj⟩ | ⟨rfl, h⟩
    · rcases h2.2 rfl with ⟨k', x', rfl, hk', hx', hj'⟩ | ⟨rfl, h'⟩
      · rcases Nat.lt_trichotomy k k' with hlt | rfl | hgt
        · have := hj _ _ hlt hk'
          rw [hx'] at this
          cases this
        · rw [hk] at hk'
          exact hk'
        · have := hj' _ _ hgt hk
          rw [hx] at this
          cases this
      · have := h' _ _ hk
        rw [hx] at this
        cases this
    · rcases h2.2 rfl with ⟨k', x', rfl, hk', hx', hj'⟩ | ⟨rfl, h'⟩
      · have := h _ _ hk'
        rw [hx'] at this
        cases this
      · rfl

theorem Pg.Fnd.ord {l : List En} {leaf : Bool} {key : ByteArray} (ho : leaf = false → Pg.Ord l) : Pg.Fnd leaf l key (Pg.find leaf l key) := by
  refine ⟨fun h => by rw [h], fun h => ?_⟩
  subst h
  have hO := ho rfl
  have hall : ∀ j y, j < Pg.upto key l → l[j]? = some y → Ky.lt key y.key = false := fun j y hj hy => by
    have := List.not_of_lt_findIdx (p := fun e : En => Ky.lt key e.key) (xs := l) hj
    have hjl := (List.getElem?_eq_some_iff.1 hy).1
    have he := (List.getElem?_eq_some_iff.1 hy).2
    rw [he] at this
    simpa using this
  have hup : ∀ j y, Pg.upto key l ≤ j → l[j]? = some y → Ky.lt key y.key = true := fun j y hj hy => by
    have hjl := (List.getElem?_eq_some_iff.1 hy).1
    have hul : l.findIdx (fun e : En => Ky.lt key e.key) < l.length := Nat.lt_of_le_of_lt hj hjl
    have h1 := List.findIdx_getElem (p := fun e : En => Ky.lt key e.key) (xs := l) (w := hul)
    rcases Nat.eq_or_lt_of_le hj with he | hlt
    · subst he
      have e1 : l[Pg.upto key l]? = some l[l.findIdx (fun e : En => Ky.lt key e.key)] := List.getElem?_eq_getElem hul
      rw [e1] at hy
      cases hy
      exact h1
    · refine Ky.lt_of_le' (hO.le (j - Pg.upto key l) (Pg.upto key l) _ _ (List.getElem?_eq_getElem hul) ?_) h1
      rw [show Pg.upto key l + (j - Pg.upto key l) = j by omega]
      exact hy
  unfold Pg.find
  simp only [Bool.false_eq_true, if_false]
  by_cases hv : 0 < Pg.upto key l
  · rw [if_pos hv]
    have hul : Pg.upto key l ≤ l.length := List.findIdx_le_length
    have hlt : Pg.upto key l - 1 < l.length := by omega
    refine .inl ⟨Pg.upto key l - 1, l[Pg.upto key l - 1], List.getElem?_eq_getElem hlt, List.getElem?_eq_getElem hlt, hall _ _ (by omega) (List.getElem?_eq_getElem hlt), fun j y hj hy => hup j y (by omega) hy⟩
  · rw [if_neg hv]
    exact .inr ⟨rfl, fun j y hy => hup j y (by omega) hy⟩

set_option maxHeartbeats 4000000 in
theorem rfind_any (leaf : Bool) (lo hi : ByteArray) (r : Int) (p : Option Addr) (len cap : Nat) (l : List En) (key : ByteArray) (w : World) (hlen : l.length = len) (hx : Ens w p l) (hl : len ≤ 4398046511104) :
    Calls Tryz.prog 67 #[pgv leaf lo hi r p len cap, .string key] w fun e w' => (∃ out, e = .returned (fv out) ∧ Pg.Fnd leaf l key out) ∧ Below w.heap.size w w' := by
  obtain ⟨w0, hw0⟩ : ∃ w0, w0 = (w.alloc (.cells (pgc leaf lo hi r p len cap) 29)).alloc (.cells #[.string ⟨#[]⟩, .int .i64 0, .int .i64 0, .int .i64 0] 33) := ⟨_, rfl⟩
  have HB0 : Hid (Below w.heap.size w w0) := by rw [hw0]; exact ((Below.refl _ _).alloc (Nat.le_refl _) _).alloc (by simp) _
  have HK0 : Hid (Bk w0 w.heap.size 29 (pgc leaf lo hi r p len cap)) := by rw [hw0]; exact (Bk.new _ _ _).alloc _
  have HR0 : Hid (Bk w0 (w.heap.size + 1) 33 #[.string ⟨#[]⟩, .int .i64 0, .int .i64 0, .int .i64 0]) := by rw [hw0]; exact Bk.new1 _ _ _ _
  have HL : Hid (l.length = len) := hlen
  have HX0 : Hid (Ens w0 p l) := hx.below HB0.out (Nat.le_refl _)
  clear hx hlen
  have a0 : w0.cell? ⟨w.heap.size, 0, none⟩ = some (.bool leaf) := HK0.out.cell 0
  have a4 : w0.cell? ⟨w.heap.size, 4, none⟩ = some (.slice p len cap) := HK0.out.cell 4
  have b0 : w0.cell? ⟨w.heap.size + 1, 0, none⟩ = some (.string ⟨#[]⟩) := HR0.out.cell 0
  have f0 : w0.frozen? ⟨w.heap.size + 1, 0, none⟩ = false := HR0.out.frozen 0
  have b1 : w0.cell? ⟨w.heap.size + 1, 1, none⟩ = some (.int .i64 0) := HR0.out.cell 1
  have f1 : w0.frozen? ⟨w.heap.size + 1, 1, none⟩ = false := HR0.out.frozen 1
  have b2 : w0.cell? ⟨w.heap.size + 1, 2, none⟩ = some (.int .i64 0) := HR0.out.cell 2
  have f2 : w0.frozen? ⟨w.heap.size + 1, 2, none⟩ = false := HR0.out.frozen 2
  have b3 : w0.cell? ⟨w.heap.size + 1, 3, none⟩ = some (.int .i64 0) := HR0.out.cell 3
  have f3 : w0.frozen? ⟨w.heap.size + 1, 3, none⟩ = false := HR0.out.frozen 3
  have HEND : Hid (∀ (x : En) (we : World), we = put4 w0 (w.heap.size + 1) (.string x.key) (.int .i64 x.s) (.int .i64 x.g) (.int .i64 x.c) → Bk we (w.heap.size + 1) 33 #[.string x.key, .int .i64 x.s, .int .i64 x.g, .int .i64 x.c] ∧ Below w.heap.size w we) := fun x we hwe => by
    have ht : Tn [w.heap.size + 1] w0 we := by rw [hwe]; exact (Tn.refl _ _).four (.inl (by simp)) _ _ _ _
    exact ⟨by rw [hwe]; exact HR0.out.four _ _ _ _, HB0.out.trans (ht.below HB0.out.size (by simp))⟩
  cases leaf with
  | true =>
    go_enter Tryz.func67, Tryz.ntmps67
    go_wp2_with fail
    rw [← hw0]
    clear hw0
    go_wp2_with fail
    go_loopw [6] (fun i wr => ∃ k : Nat, k ≤ len ∧ i = .int .i64 k ∧ wr = w0 ∧ Hid (∀ j x, j < k → l[j]? = some x → Pg.is key x = false)) (fun i _ => len - (intOf i).toNat)
    case atStart => exact ⟨0, Nat.zero_le _, rfl, rfl, fun j x hj => absurd hj (Nat.not_lt_zero _)⟩
    case round =>
      obtain ⟨k, hk, rfl, rfl, HA⟩ := hrel
      by_cases hlt : k < len
      · have hli : (k : Int) < (len : Int) := by omega
        have hk0 : (0 : Int) ≤ (k : Int) := by omega
        obtain ⟨b, o, x, rfl, hg, hblt, c0, c1, c2, c3⟩ := HX0.out.at (j := k) (by have := HL.out; omega)
        have HG : Hid (l[k]? = some x) := hg
        clear hg
        cases hq : Pg.is key x with
        | true =>
          have HF : Hid (Pg.Fnd true l key (some x)) := by
            refine ⟨fun _ => ?_, fun h => by cases h⟩
            unfold Pg.find
            simp only [if_true]
            have hkl := (List.getElem?_eq_some_iff.1 HG.out).1
            have hy : l.any (Pg.is key) = true := List.any_eq_true.2 ⟨x, List.mem_of_getElem? HG.out, hq⟩
            rw [if_pos hy, (List.findIdx_eq hkl).2 ⟨by rw [(List.getElem?_eq_some_iff.1 HG.out).2]; exact hq, fun j hj => HA.out j _ hj (List.getElem?_eq_getElem (by omega))⟩, HG.out]
          have hq' : (x.key.toList == key.toList) = true := by rw [← hq]; rfl
          obtain ⟨xk, xs, xg, xc⟩ := x
          simp only at c0 c1 c2 c3 hq'
          clear hq
          go_wp2
          obtain ⟨we, hwe⟩ : ∃ we, we = put4 wr (w.heap.size + 1) (.string xk) (.int .i64 xs) (.int .i64 xg) (.int .i64 xc) := ⟨_, rfl⟩
          obtain ⟨hA, ht⟩ := HEND.out ⟨xk, xs, xg, xc⟩ we hwe
          unfold put4 at hwe
          rw [← hwe]
          clear hwe
          refine bodyPost_ret (results_two (cs := [.string xk, .int .i64 xs, .int .i64 xg, .int .i64 xc]) rfl rfl en_agg en_size rfl hA) rfl ?_
          exact ⟨⟨_, rfl, HF.out⟩, ht⟩
        | false =>
          have hq' : (x.key.toList == key.toList) = false := by rw [← hq]; rfl
          go_wp2
          go_roundw
          case rel =>
            refine ⟨k + 1, by omega, by go_num, trivial, fun j y hj hy => ?_⟩
            by_cases e : j = k
            · subst e
              rw [HG.out] at hy
              cases hy
              exact hq
            · exact HA.out j y (by omega) hy
          case measure => simp [intOf]; omega
      · have hkk : k = len := by omega
        have hli : ¬ ((k : Int) < (len : Int)) := by omega
        have HF : Hid (Pg.Fnd true l key none) := by
          refine ⟨fun _ => ?_, fun h => by cases h⟩
          unfold Pg.find
          simp [Pg.any_miss (fun j x hj => HA.out j x (by have := HL.out; omega))]
        go_wp2
        obtain ⟨we, hwe⟩ : ∃ we, we = put4 wr (w.heap.size + 1) (.string ⟨#[]⟩) (.int .i64 0) (.int .i64 0) (.int .i64 0) := ⟨_, rfl⟩
        obtain ⟨hA, ht⟩ := HEND.out En.zero we hwe
        unfold put4 at hwe
        rw [← hwe]
        clear hwe
        refine bodyPost_ret (results_two (cs := [.string ⟨#[]⟩, .int .i64 0, .int .i64 0, .int .i64 0]) rfl rfl en_agg en_size rfl hA) rfl ?_
        exact ⟨⟨none, rfl, HF.out⟩, ht⟩
  | false =>
    go_enter Tryz.func67, Tryz.ntmps67
    go_wp2_with fail
    rw [← hw0]
    clear hw0
    go_wp2_with fail
    go_loopw [7] (fun i wr => ∃ k : Nat, k ≤ len ∧ i = .int .i64 ((k : Int) - 1) ∧ wr = w0 ∧ Hid (∀ j x, k ≤ j → l[j]? = some x → Ky.lt key x.key = true)) (fun i _ => (intOf i + 1).toNat)
    case atStart => exact ⟨len, Nat.le_refl _, by go_num, rfl, fun j x hj hx => by have := (List.getElem?_eq_some_iff.1 hx).1; have := HL.out; omega⟩
    case round =>
      obtain ⟨k', hk, rfl, rfl, HA⟩ := hrel
      cases k' with
      | succ k =>
        rw [show ((k + 1 : Nat) : Int) - 1 = (k : Int) by omega]
        have hli : (k : Int) < (len : Int) := by omega
        have hk0 : (0 : Int) ≤ (k : Int) := by omega
        obtain ⟨b, o, x, rfl, hg, hblt, c0, c1, c2, c3⟩ := HX0.out.at (j := k) (by have := HL.out; omega)
        have HG : Hid (l[k]? = some x) := hg
        clear hg
        cases hq : Ky.lt key x.key with
        | false =>
          have HF : Hid (Pg.Fnd false l key (some x)) := ⟨(fun h => by cases h), fun _ => .inl ⟨k, x, rfl, HG.out, hq, fun j y hj hy => HA.out j y (by omega) hy⟩⟩
          have hq' : (Op.bytesLess x.key.toList key.toList || x.key.toList == key.toList) = true := by rw [Ky.leq_iff]; show (!Ky.lt key x.key) = true; rw [hq]; rfl
          obtain ⟨xk, xs, xg, xc⟩ := x
          simp only at c0 c1 c2 c3 hq'
          clear hq
          go_wp2
          obtain ⟨we, hwe⟩ : ∃ we, we = put4 wr (w.heap.size + 1) (.string xk) (.int .i64 xs) (.int .i64 xg) (.int .i64 xc) := ⟨_, rfl⟩
          obtain ⟨hA, ht⟩ := HEND.out ⟨xk, xs, xg, xc⟩ we hwe
          unfold put4 at hwe
          rw [← hwe]
          clear hwe
          refine bodyPost_ret (results_two (cs := [.string xk, .int .i64 xs, .int .i64 xg, .int .i64 xc]) rfl rfl en_agg en_size rfl hA) rfl ?_
          exact ⟨⟨_, rfl, HF.out⟩, ht⟩
        | true =>
          have hq' : (Op.bytesLess x.key.toList key.toList || x.key.toList == key.toList) = false := by rw [Ky.leq_iff]; show (!Ky.lt key x.key) = false; rw [hq]; rfl
          go_wp2
          go_roundw
          case rel =>
            refine ⟨k, by omega, by go_num, trivial, fun j y hj hy => ?_⟩
            by_cases e : j = k
            · subst e
              rw [HG.out] at hy
              cases hy
              exact hq
            · exact HA.out j y (by omega) hy
          case measure => simp [intOf]
      | zero =>
        rw [show ((0 : Nat) : Int) - 1 = -1 by omega]
        have HF : Hid (Pg.Fnd false l key none) := ⟨(fun h => by cases h), fun _ => .inr ⟨rfl, fun j y hy => HA.out j y (Nat.zero_le _) hy⟩⟩
        go_wp2
        obtain ⟨we, hwe⟩ : ∃ we, we = put4 wr (w.heap.size + 1) (.string ⟨#[]⟩) (.int .i64 0) (.int .i64 0) (.int .i64 0) := ⟨_, rfl⟩
        obtain ⟨hA, ht⟩ := HEND.out En.zero we hwe
        unfold put4 at hwe
        rw [← hwe]
        clear hwe
        refine bodyPost_ret (results_two (cs := [.string ⟨#[]⟩, .int .i64 0, .int .i64 0, .int .i64 0]) rfl rfl en_agg en_size rfl hA) rfl ?_
        exact ⟨⟨none, rfl, HF.out⟩, ht⟩

/-- Whether a key is not below another one. -/
abbrev Pg.ge (key : ByteArray) (e : En) : Bool := !Ky.lt e.key key

end Go.Proofs.YtoehlgigidgfpaaGreat

namespace Go.Proofs.YtoehlgigidgfpaaGreat
open Go.RowKit Go.Shelf Go.Sort
attribute [local go_sem] Oper.semAt_some
set_option linter.unusedVariables false
set_option maxRecDepth 100000

theorem KpP.cell {S : List Nat} {W W' : World} (h : KpP S W W') {b o : Nat} (hb : b ∈ S) : W'.cell? ⟨b, o, none⟩ = W.cell? ⟨b, o, none⟩ := by
  simp only [World.cell?, h b hb]

theorem Ens.kp {S : List Nat} {W W' : World} {p : Option Addr} {l : List En} (h : Ens W p l) (hk : KpP S W W') (hp : ∀ b o, p = some ⟨b, o, none⟩ → b ∈ S) : Ens W' p l := by
  intro hl
  obtain ⟨b, o, rfl, hc⟩ := h hl
  refine ⟨b, o, rfl, fun i g hi => ?_⟩
  have hb := hp b o rfl
  rw [hk.cell hb, hk.cell hb, hk.cell hb, hk.cell hb]
  exact hc i g hi

/-- A function value that goes through entries: its box, and the blocks that it reads. -/
structure Fm (W : World) (b : Nat) (S : List Nat) (L : List En) : Prop where
  ex : ∃ p c, Bk W b 27 #[.slice p L.length c] ∧ Ens W p L ∧ (0 < L.length → ∀ g o, p = some ⟨g, o, none⟩ → g ∈ S)
  h1 : b ∈ S
  lt : ∀ b ∈ S, b < W.heap.size
  reach : L.length ≤ 4398046511104

theorem Fm.kp {W W' : World} {b : Nat} {S : List Nat} {L : List En} (h : Fm W b S L) (hk : KpP S W W') : Fm W' b S L := by
  obtain ⟨p, c, k1, r1, s1⟩ := h.ex
  refine ⟨⟨p, c, hk.bk k1 h.h1, ?_, s1⟩, h.h1, hk.lt h.lt, h.reach⟩
  intro hl
  exact r1.kp hk (s1 hl) hl

abbrev encE (x : En) : Array Value := #[x.val]

theorem Ens.dropP {w : World} {p : Option Addr} {l : List En} (h : Ens w p l) (v : Nat) : Ens w (p.map fun x => x.add (v * 4)) (l.drop v) := by
  intro hl
  rw [List.length_drop] at hl
  obtain ⟨b, o, rfl, hc⟩ := h (by omega)
  have h2 : Ens w (some ⟨b, o, none⟩) l := fun _ => ⟨b, o, rfl, hc⟩
  rw [Option.map_some, Addr.add_lit]
  exact h2.drop v (by rw [List.length_drop]; omega)

end Go.Proofs.YtoehlgigidgfpaaGreat

namespace Go.Proofs.YtoehlgigidgfpaaGreat
open Go.RowKit Go.Shelf Go.Sort
attribute [local go_sem] Oper.semAt_some
set_option linter.unusedVariables false
set_option maxRecDepth 100000

theorem tn_drewN (w : World) (k : Nat) : Tn [] w (w.drewN k) := ⟨rfl, rfl, rfl, Nat.le_refl _, fun _ _ _ => rfl⟩

theorem pfx_snoc {L pre : List En} (h : pre <+: L) (hN : pre.length < L.length) (x y : En) (hy : L[pre.length]? = some y) : pre ++ [x] <+: L ↔ x = y := by
  obtain ⟨t, rfl⟩ := h
  cases t with
  | nil => simp at hN
  | cons z t =>
    have e : z = y := by simpa using hy
    subst e
    rw [List.prefix_append_right_inj, List.cons_prefix_cons]
    simp

/-- Between the rounds. -/
structure Tl (w W : World) (q : Option Addr) (m c : Nat) (stop : Int) (L pre : List En) : Prop where
  b0 : Boxed W w.heap.size 27 (.slice q m c)
  b1 : Boxed W (w.heap.size + 1) 3 (.int .i64 stop)
  b2 : Boxed W (w.heap.size + 1 + 1) 4 (.bool false)
  b3 : Boxed W (w.heap.size + 1 + 1 + 1) 3 (.int .i64 (pre.length : Int))
  below : Below w.heap.size w W
  pf : pre <+: L

section
variable {w W W' : World} {q : Option Addr} {m c : Nat} {stop : Int} {L pre : List En}

theorem Tl.abides {row : Option Nat} {k : Nat} (h : Tl w W q m c stop L pre) (hm : w.heap.size ≤ k) (hg : W.grownBy W' row) (hr : ∀ r, row = some r → k ≤ r ∧ ∃ o : Obj, W.heap[r]? = some o ∧ o.isCells = false) : Tl w W' q m c stop L pre where
  b0 := boxed_from h.b0 hg hr
  b1 := boxed_from h.b1 hg hr
  b2 := boxed_from h.b2 hg hr
  b3 := boxed_from h.b3 hg hr
  below := h.below.grown hg h.below.size (fun k hk => by have := (hr k hk).1; omega)
  pf := h.pf

theorem Tl.still (h : Tl w W q m c stop L pre) (ht : Tn [] W W') : Tl w W' q m c stop L pre where
  b0 := Bk.tn (show Bk W _ _ _ from h.b0) ht (by simp)
  b1 := Bk.tn (show Bk W _ _ _ from h.b1) ht (by simp)
  b2 := Bk.tn (show Bk W _ _ _ from h.b2) ht (by simp)
  b3 := Bk.tn (show Bk W _ _ _ from h.b3) ht (by simp)
  below := h.below.trans (ht.below h.below.size (by simp))
  pf := h.pf

theorem Tl.fin {S : List Nat} (h : Tl w W q m c stop L pre) (hS : ∀ b ∈ S, b < w.heap.size) (ht : Tn [w.heap.size + 1 + 1, w.heap.size + 1 + 1 + 1] W W') : KeepsOthers W W' ∧ KpP S W W' ∧ Below w.heap.size w W' := by
  have hs := h.below.size
  refine ⟨keeps_tn ht (fun y hy => ?_), KpP.of_tn ht (fun y hy => ?_), h.below.trans (ht.below hs (fun y hy => ?_))⟩
  · simp only [List.mem_cons, List.not_mem_nil, or_false] at hy
    rcases hy with rfl | rfl
    · exact ⟨_, h.b2, rfl⟩
    · exact ⟨_, h.b3, rfl⟩
  · have := hS y hy
    simp only [List.mem_cons, List.not_mem_nil, or_false]
    omega
  · simp only [List.mem_cons, List.not_mem_nil, or_false] at hy
    omega

/-- The number goes up. -/
theorem Tl.num {N : Nat} (h : Tl w W q m c stop L pre) (hN : pre.length = N) (x : En) (hp : pre ++ [x] <+: L) : Tl w (W.setCell ⟨w.heap.size + 1 + 1 + 1, 0, none⟩ (.int .i64 ((N : Int) + 1))) q m c stop L (pre ++ [x]) where
  b0 := h.b0.other (by omega) _
  b1 := h.b1.other (by omega) _
  b2 := h.b2.other (by omega) _
  b3 := by
    rw [List.length_append, hN, show ((N + [x].length : Nat) : Int) = (N : Int) + 1 by simp]
    exact h.b3.set _
  below := h.below.setCell (p := ⟨w.heap.size + 1 + 1 + 1, 0, none⟩) (by simp; omega) _
  pf := hp
end

theorem tl_start (w : World) (q : Option Addr) (m c : Nat) (stop : Int) (L : List En) : ∃ W, W = (((w.alloc (.cells #[.slice q m c] 27)).alloc (.cells #[.int .i64 stop] 3)).alloc (.cells #[.bool false] 4)).alloc (.cells #[.int .i64 0] 3) ∧ W.heap.size = w.heap.size + 4 ∧ Tl w W q m c stop L [] := by
  refine ⟨_, rfl, by simp, ?_⟩
  have c0 := Bk.new w 27 #[.slice q m c]
  have c1 := Bk.new (w.alloc (.cells #[.slice q m c] 27)) 3 #[.int .i64 stop]
  have c2 := Bk.new ((w.alloc (.cells #[.slice q m c] 27)).alloc (.cells #[.int .i64 stop] 3)) 4 #[.bool false]
  have c3 := Bk.new (((w.alloc (.cells #[.slice q m c] 27)).alloc (.cells #[.int .i64 stop] 3)).alloc (.cells #[.bool false] 4)) 3 #[.int .i64 0]
  simp only [World.size_alloc] at c1 c2 c3
  exact ⟨((c0.alloc _).alloc _).alloc _, (c1.alloc _).alloc _, c2.alloc _, c3, ((((Below.refl _ w).alloc (Nat.le_refl _) _).alloc (by simp) _).alloc (by simp; omega) _).alloc (by simp; omega) _, List.nil_prefix⟩

end Go.Proofs.YtoehlgigidgfpaaGreat

namespace Go.Proofs.YtoehlgigidgfpaaGreat
open Go.RowKit Go.Shelf Go.Sort
attribute [local go_sem] Oper.semAt_some
set_option linter.unusedVariables false
set_option maxRecDepth 100000

/-- Entries with their places, from the last to the first. -/
def Pg.bw (l : List En) : List (Nat × En) := (List.range l.length).map fun i => (l.length - 1 - i, (l[l.length - 1 - i]?).getD En.zero)

theorem Pg.bw_len (l : List En) : (Pg.bw l).length = l.length := by simp [Pg.bw]

theorem Pg.bw_at {l : List En} {k : Nat} {x : En} (hk : k < l.length) (hx : l[k]? = some x) : (Pg.bw l)[l.length - 1 - k]? = some (k, x) := by
  have h1 : l.length - 1 - k < l.length := by omega
  simp only [Pg.bw, List.getElem?_map, List.getElem?_range h1, Option.map_some]
  rw [show l.length - 1 - (l.length - 1 - k) = k by omega, hx]
  rfl

theorem Pg.bw_pre {l : List En} {pre : List (Nat × En)} {i : Nat} {x : En} (h : pre ++ [(i, x)] <+: Pg.bw l) : l[i]? = some x ∧ ∀ j y, i < j → l[j]? = some y → (j, y) ∈ pre := by
  obtain ⟨t, ht⟩ := h
  have hn : pre.length < l.length := by rw [← Pg.bw_len, ← ht]; simp
  have h0 : (Pg.bw l)[pre.length]? = some (i, x) := by rw [← ht]; simp
  have hx0 : l[l.length - 1 - pre.length]? = some l[l.length - 1 - pre.length] := List.getElem?_eq_getElem (by omega)
  have h1 := Pg.bw_at (k := l.length - 1 - pre.length) (by omega) hx0
  rw [show l.length - 1 - (l.length - 1 - pre.length) = pre.length by omega, h0] at h1
  simp only [Option.some.injEq, Prod.mk.injEq] at h1
  obtain ⟨rfl, rfl⟩ := h1
  refine ⟨hx0, fun j y hj hy => ?_⟩
  have hjl := (List.getElem?_eq_some_iff.1 hy).1
  have h2 := Pg.bw_at hjl hy
  have h3 : l.length - 1 - j < pre.length := by omega
  rw [← ht, List.append_assoc, List.getElem?_append_left h3] at h2
  exact List.mem_of_getElem? h2

theorem Pg.bw_all {l : List En} {j : Nat} {y : En} (hy : l[j]? = some y) : (j, y) ∈ Pg.bw l :=
  List.mem_of_getElem? (Pg.bw_at (List.getElem?_eq_some_iff.1 hy).1 hy)

abbrev encB (x : Nat × En) : Array Value := #[.int .i64 (x.1 : Int), x.2.val]

set_option maxHeartbeats 2000000 in
theorem back1_in (n : Nat) (hn : 1 ≤ n) (l b : Nat) (S : List Nat) (L : List En) (J Jx : List (Nat × En) → World → Prop)
    (hY : ∀ pre x W, J pre W → pre.length < (Pg.bw L).length → YieldAt Fence.wide (n - 1) Tryz.prog l (encB x) W fun r W' =>
      (r = .returned (.bool true) ∧ J (pre ++ [x]) W' ∧ KpP S W W') ∨ (r = .returned (.bool false) ∧ Jx (pre ++ [x]) W'))
    (W : World) (hL : Fm W b S L) (h0 : J [] W) :
    CallsIn Fence.wide n Tryz.prog 200 #[.func (.yield l) #[] #[], .pointer (some ⟨b, 0, none⟩)] W fun r W' => (∃ v, r = .returned v) ∧
      ((∃ ys, ys = Pg.bw L ∧ J ys W') ∨ (∃ pre, pre <+: Pg.bw L ∧ Jx pre W')) := by
  refine callsIn_of_wp Tryz.func200 rfl trivial ?_ rfl
  simp only [Tryz.ntmps200, List.size_toArray, List.length_cons, List.length_nil, Nat.reduceAdd, Nat.reduceSub, Array.replicate_succ, Array.replicate_zero, List.push_toArray, List.append_toArray, List.nil_append, List.cons_append]
  obtain ⟨p, c, k1, r1, s1⟩ := hL.ex
  obtain ⟨len, hlen⟩ : ∃ len, L.length = len := ⟨_, rfl⟩
  have hreach := hL.reach
  have HR : Hid (∀ W', KpP S W W' → ∀ j x, L[j]? = some x → ∃ g o, p = some ⟨g, o, none⟩ ∧ W'.cell? ⟨g, o + j * 4, none⟩ = some (.string x.key) ∧ W'.cell? ⟨g, o + j * 4 + 1, none⟩ = some (.int .i64 x.s) ∧ W'.cell? ⟨g, o + j * 4 + 2, none⟩ = some (.int .i64 x.g) ∧ W'.cell? ⟨g, o + j * 4 + 3, none⟩ = some (.int .i64 x.c)) := fun W' hk j x hx => by
    have hj : j < L.length := (List.getElem?_eq_some_iff.1 hx).1
    obtain ⟨g, o, e, rfl, he, -, h⟩ := (r1.kp hk (s1 (by omega))).at hj
    rw [hx] at he
    cases he
    exact ⟨g, o, rfl, h⟩
  rw [Pg.bw_len, hlen] at hY
  rw [hlen] at hreach k1
  have HL : Hid (L.length = len) := hlen
  have HY : Hid _ := hY
  have HBX : Hid (∀ W', KpP S W W' → W'.cell? ⟨b, 0, none⟩ = some (.slice p len c)) := fun W' hk => (hk.bk k1 hL.h1).cell 0
  have hbx := HBX.out W (KpP.refl _ _)
  clear hlen hY hL k1 r1 s1
  gi_wp2
  gi_loopw [3] (fun i wr => ∃ k : Nat, k ≤ len ∧ i = .int .i64 ((k : Int) - 1) ∧ J ((Pg.bw L).take (len - k)) wr ∧ KpP S W wr) (fun i _ => (intOf i + 1).toNat)
  case atStart => exact ⟨len, Nat.le_refl _, by go_num, by simpa using h0, KpP.refl _ _⟩
  case round =>
    obtain ⟨k', hk, rfl, hJs, hK⟩ := hrel
    cases k' with
    | succ k =>
      rw [show ((k + 1 : Nat) : Int) - 1 = (k : Int) by omega]
      have hkL : k < L.length := by rw [HL.out]; omega
      obtain ⟨x, hx⟩ : ∃ x, L[k]? = some x := ⟨_, List.getElem?_eq_getElem hkL⟩
      have hli : (k : Int) < (len : Int) := by omega
      have hk0 : (0 : Int) ≤ (k : Int) := by omega
      have hb0 := HBX.out wr hK
      obtain ⟨g, o, rfl, z0, z1, z2, z3⟩ := HR.out wr hK k x hx
      have hbw := Pg.bw_at hkL hx
      rw [HL.out, show len - 1 - k = len - (k + 1) by omega] at hbw
      have HT : Hid ((Pg.bw L).take (len - k) = (Pg.bw L).take (len - (k + 1)) ++ [(k, x)]) := by
        rw [Hid, show len - k = len - (k + 1) + 1 by omega]
        exact take_snoc hbw
      obtain ⟨fn, tmps, assign, body, hy, hR⟩ := HY.out ((Pg.bw L).take (len - (k + 1))) (k, x) wr hJs (by rw [List.length_take]; omega)
      simp only [encB, En.val] at hy
      clear hx hbw
      gi_wp2
      refine hR.mono ?_
      rintro e W4 (⟨rfl, hJ4, hk4⟩ | ⟨rfl, hJx4⟩)
      · gi_wp2
        go_roundw
        case rel => exact ⟨k, by omega, by go_num, by rw [HT.out]; exact hJ4, hK.t hk4⟩
        case measure => simp [intOf]
      · gi_wp2
        refine bodyPost_ret (results_none rfl _ _ _) rfl ?_
        exact ⟨⟨_, rfl⟩, .inr ⟨_, by rw [← HT.out]; exact List.take_prefix _ _, hJx4⟩⟩
    | zero =>
      rw [show ((0 : Nat) : Int) - 1 = -1 by omega]
      gi_wp2
      go_end0
      refine ⟨⟨_, rfl⟩, .inl ⟨_, rfl, ?_⟩⟩
      rw [List.take_of_length_le (by rw [Pg.bw_len, HL.out]; exact Nat.le_refl _)] at hJs
      exact hJs

theorem back1_stops (n : Nat) (hn : 1 ≤ n) {w : World} {b : Nat} {S : List Nat} {L : List En} (hL : Fm w b S L) :
    SeqStopsK Fence.wide n Tryz.prog 200 #[.pointer (some ⟨b, 0, none⟩)] encB (KpP S) (fun ys => ys = Pg.bw L) (fun pre => pre <+: Pg.bw L) (Pg.bw L).length w := fun l J Jx W hW hJ _ hY h0 =>
  back1_in n hn l b S L J Jx hY W (hL.kp (KpP.of_below hW hL.lt)) h0

theorem back_any (p : Option Addr) (len cap : Nat) (w : World) :
    Calls Tryz.prog 171 #[.slice p len cap] w fun e w' => e = .returned (.func (.func 200) #[] #[.pointer (some ⟨w.heap.size, 0, none⟩)]) ∧ w' = w.alloc (.cells #[.slice p len cap] 27) := by
  go_enter Tryz.func171, Tryz.ntmps171
  go_wp2
  go_ret
  exact ⟨rfl, rfl⟩

end Go.Proofs.YtoehlgigidgfpaaGreat

namespace Go.Proofs.YtoehlgigidgfpaaGreat
set_option linter.unusedVariables false
set_option maxRecDepth 100000

namespace Dr
/-- Keys by their numbers. -/
structure Nu (K : Nat) (num : ByteArray → Nat) (kw : ByteArray → Prop) : Prop where
  lt : ∀ x, kw x → num x < K
  is : ∀ x y, kw x → kw y → (x.toList == y.toList) = decide (num x = num y)
  le : ∀ x y, kw x → kw y → Ky.lt x y = decide (num x < num y)

/-- What stays: how many keys and places, each place's key, the next place with it. -/
structure Fx where
  K : Nat
  R : Nat
  kn : List Nat
  nx : List Nat

def Fx.k (F : Fx) (a : Nat) : Nat := F.kn.getD a 0
def Fx.n (F : Fx) (a : Nat) : Nat := F.nx.getD a 0

structure Fx.Ok (F : Fx) : Prop where
  lk : F.kn.length = F.R
  ln : F.nx.length = F.R
  key : ∀ a, a < F.R → F.k a < F.K
  gt : ∀ a, a < F.R → a < F.n a
  le : ∀ a, a < F.R → F.n a ≤ F.R
  same : ∀ a, a < F.R → F.n a < F.R → F.k (F.n a) = F.k a
  next : ∀ a b, a < F.R → a < b → b < F.n a → F.k b ≠ F.k a

/-- What turns. -/
structure Df where
  came : Nat
  row : List En
  fs : List Nat
  al : List En
  gp : List Nat
  st : Nat → Bool

def Df.f (s : Df) (n : Nat) : Nat := s.fs.getD n 0
def Df.g (s : Df) (n : Nat) : Nat := s.gp.getD n 0
def Df.r (s : Df) (a : Nat) : En := s.row.getD a En.zero
def Df.a (s : Df) (n : Nat) : En := s.al.getD n En.zero
/-- Whether the entry of a place is there. -/
def th (F : Fx) (s : Df) (a : Nat) : Bool := decide (a < s.came) && decide (s.f (F.k a) ≤ a)

/-- What stands at a place of the list: places and gaps by one number. -/
def val (F : Fx) (s : Df) (c : Nat) : Option En :=
  if c % (F.K + 1) = F.K then (if th F s (c / (F.K + 1)) then some (s.r (c / (F.K + 1))) else none)
  else (if s.st (c % (F.K + 1)) && decide (s.g (c % (F.K + 1)) = c / (F.K + 1)) then some (s.a (c % (F.K + 1))) else none)

def top (F : Fx) (s : Df) : Nat := s.came * (F.K + 1) + F.K
def view (F : Fx) (s : Df) : List En := (List.range (top F s)).filterMap (val F s)

structure Inv (F : Fx) (num : ByteArray → Nat) (kw : ByteArray → Prop) (s : Df) : Prop where
  fx : F.Ok
  nu : Nu F.K num kw
  lr : s.row.length = F.R
  lf : s.fs.length = F.K
  la : s.al.length = F.K
  lg : s.gp.length = F.K
  came : s.came ≤ F.R
  st : ∀ n, s.st n = true → n < F.K ∧ s.g n ≤ s.came
  rise : ∀ m n, s.st m = true → s.st n = true → m < n → s.g m ≤ s.g n
  ahead : ∀ m a, s.st m = true → th F s a = true → m ≤ F.k a → s.g m ≤ a
  fle : ∀ n, n < F.K → s.f n ≤ F.R
  fkey : ∀ n, n < F.K → s.f n < F.R → F.k (s.f n) = n
  left : ∀ a, s.came ≤ a → a < F.R → s.f (F.k a) ≤ a
  kr : ∀ a, a < F.R → kw (s.r a).key ∧ num (s.r a).key = F.k a
  ka : ∀ n, s.st n = true → kw (s.a n).key ∧ num (s.a n).key = n

theorem div_code (K a n : Nat) (h : n ≤ K) : (a * (K + 1) + n) / (K + 1) = a := by
  rw [Nat.mul_comm, Nat.mul_add_div (by omega), Nat.div_eq_of_lt (by omega), Nat.add_zero]
theorem mod_code (K a n : Nat) (h : n ≤ K) : (a * (K + 1) + n) % (K + 1) = n := by
  rw [Nat.mul_comm, Nat.mul_add_mod, Nat.mod_eq_of_lt (by omega)]

theorem lt_code {K a n b m : Nat} (h : a * (K + 1) + n < b * (K + 1) + m) (hn : n ≤ K) (hm : m ≤ K) : a < b ∨ (a = b ∧ n < m) := by
  by_cases h1 : a < b
  · exact .inl h1
  · by_cases h2 : a = b
    · subst h2; exact .inr ⟨rfl, by omega⟩
    · have h3 : (b + 1) * (K + 1) ≤ a * (K + 1) := Nat.mul_le_mul_right _ (by omega)
      rw [Nat.succ_mul] at h3
      omega

theorem code_lt {K a n b m : Nat} (hn : n ≤ K) (h : a < b ∨ (a = b ∧ n < m)) : a * (K + 1) + n < b * (K + 1) + m := by
  rcases h with h | ⟨rfl, h⟩
  · have h3 : (a + 1) * (K + 1) ≤ b * (K + 1) := Nat.mul_le_mul_right _ (by omega)
    rw [Nat.succ_mul] at h3
    omega
  · omega

theorem code_of (K c : Nat) : c = c / (K + 1) * (K + 1) + c % (K + 1) ∧ c % (K + 1) ≤ K := by
  have := Nat.div_add_mod c (K + 1)
  have h := Nat.mod_lt c (show 0 < K + 1 by omega)
  rw [Nat.mul_comm] at this
  exact ⟨this.symm, by omega⟩

/-- What a number of the list stands for. -/
theorem val_some {F : Fx} {s : Df} {c : Nat} {x : En} (h : val F s c = some x) :
    (∃ a, c = a * (F.K + 1) + F.K ∧ th F s a = true ∧ x = s.r a) ∨ (∃ n, n < F.K ∧ c = s.g n * (F.K + 1) + n ∧ s.st n = true ∧ x = s.a n) := by
  obtain ⟨e, hm⟩ := code_of F.K c
  unfold val at h
  split at h
  · rename_i hK
    split at h
    · rename_i ht
      refine .inl ⟨c / (F.K + 1), by rw [hK] at e; exact e, ht, (Option.some.inj h).symm⟩
    · cases h
  · rename_i hK
    split at h
    · rename_i ht
      simp only [Bool.and_eq_true, decide_eq_true_eq] at ht
      refine .inr ⟨c % (F.K + 1), by omega, by rw [ht.2]; exact e, ht.1, (Option.some.inj h).symm⟩
    · cases h

theorem val_row (F : Fx) (s : Df) (a : Nat) : val F s (a * (F.K + 1) + F.K) = if th F s a then some (s.r a) else none := by
  unfold val
  rw [mod_code _ _ _ (Nat.le_refl _), div_code _ _ _ (Nat.le_refl _), if_pos rfl]

theorem val_gap (F : Fx) (s : Df) (a n : Nat) (h : n < F.K) : val F s (a * (F.K + 1) + n) = if s.st n && decide (s.g n = a) then some (s.a n) else none := by
  unfold val
  rw [mod_code _ _ _ (by omega), div_code _ _ _ (by omega), if_neg (by omega)]

theorem range_split (n c : Nat) (h : c < n) : List.range n = List.range c ++ c :: List.range' (c + 1) (n - c - 1) := by
  rw [List.range_eq_range', List.range_eq_range']
  have : n = c + (1 + (n - c - 1)) := by omega
  conv => lhs; rw [this]
  rw [← List.range'_append_1, Nat.zero_add, Nat.add_comm 1, List.range'_succ]

/-- The list around one place. -/
theorem view_split (F : Fx) (s : Df) (c : Nat) (h : c < top F s) : view F s = (List.range c).filterMap (val F s) ++ ((val F s c).toList ++ (List.range' (c + 1) (top F s - c - 1)).filterMap (val F s)) := by
  unfold view
  rw [range_split _ c h, List.filterMap_append, List.filterMap_cons]
  cases val F s c <;> rfl

theorem fm_congr {f g : Nat → Option En} {l : List Nat} (h : ∀ x ∈ l, f x = g x) : l.filterMap f = l.filterMap g := by
  induction l with
  | nil => rfl
  | cons a r ih =>
    rw [List.filterMap_cons, List.filterMap_cons, h a (by simp), ih fun x hx => h x (by simp [hx])]

/-- The list behind a change of one place. -/
theorem view_turn (F : Fx) (s s' : Df) (c : Nat) (hc : c < top F s) (ht : s'.came = s.came) (h : ∀ d, d ≠ c → val F s' d = val F s d) : view F s' = (List.range c).filterMap (val F s) ++ ((val F s' c).toList ++ (List.range' (c + 1) (top F s - c - 1)).filterMap (val F s)) := by
  have e : top F s' = top F s := by unfold top; rw [ht]
  rw [view_split F s' c (by rw [e]; exact hc), e]
  rw [fm_congr (f := val F s') (g := val F s) (l := List.range c) fun x hx => h x (by have := List.mem_range.1 hx; omega)]
  rw [fm_congr (f := val F s') (g := val F s) (l := List.range' (c + 1) (top F s - c - 1)) fun x hx => h x (by have := List.mem_range'_1.1 hx; omega)]

theorem mem_pre {F : Fx} {s : Df} {c : Nat} {x : En} (h : x ∈ (List.range c).filterMap (val F s)) : ∃ d, d < c ∧ val F s d = some x := by
  obtain ⟨d, hd, hv⟩ := List.mem_filterMap.1 h
  exact ⟨d, List.mem_range.1 hd, hv⟩

theorem putL_same {A B : List En} {x e : En} (hA : ∀ y ∈ A, Pg.is e.key y = false) (hx : Pg.is e.key x = true) : Pg.putL (A ++ x :: B) e = A ++ e :: B := by
  unfold Pg.putL
  have h1 : (A ++ x :: B).any (Pg.is e.key) = true := by simp [hx]
  have h2 : (A ++ x :: B).findIdx (Pg.is e.key) = A.length := by
    rw [List.findIdx_append, if_neg, List.findIdx_cons, hx]
    · simp
    · intro hc
      obtain ⟨y, hy, hp⟩ := List.findIdx_lt_length.1 hc
      rw [hA y hy] at hp
      cases hp
  rw [if_pos h1, h2]
  simp

theorem idx_at {A B : List En} {p : En → Bool} (hA : ∀ y ∈ A, p y = false) (hB : B = [] ∨ ∃ x r, B = x :: r ∧ p x = true) : (A ++ B).findIdx p = A.length := by
  rw [List.findIdx_append, if_neg]
  · rcases hB with rfl | ⟨x, r, rfl, hx⟩
    · simp
    · rw [List.findIdx_cons, hx]; simp
  · intro hc
    obtain ⟨y, hy, hp⟩ := List.findIdx_lt_length.1 hc
    rw [hA y hy] at hp
    cases hp

theorem putL_new {A B : List En} {e : En} (h1 : ∀ y ∈ A ++ B, Pg.is e.key y = false) (hA : ∀ y ∈ A, Ky.lt e.key y.key = false) (hB : B = [] ∨ ∃ x r, B = x :: r ∧ Ky.lt e.key x.key = true) : Pg.putL (A ++ B) e = A ++ e :: B := by
  unfold Pg.putL
  have hn : (A ++ B).any (Pg.is e.key) = false := by
    rw [List.any_eq_false]
    intro y hy
    rw [h1 y hy]
    simp
  rw [if_neg (by rw [hn]; simp), idx_at hA hB]
  unfold Pg.ins
  simp

def without (l : List En) (key : ByteArray) : List En := if l.any (Pg.is key) then Pg.del l (l.findIdx (Pg.is key)) else l

theorem without_same {A B : List En} {x : En} {key : ByteArray} (hA : ∀ y ∈ A, Pg.is key y = false) (hx : Pg.is key x = true) : without (A ++ x :: B) key = A ++ B := by
  unfold without
  rw [if_pos (by simp [hx]), idx_at hA (.inr ⟨x, B, rfl, hx⟩)]
  unfold Pg.del
  rw [List.take_left' rfl, List.drop_append]
  simp

theorem without_none {l : List En} {key : ByteArray} (h : ∀ y ∈ l, Pg.is key y = false) : without l key = l := by
  unfold without
  have hn : l.any (Pg.is key) = false := by
    rw [List.any_eq_false]
    intro y hy
    rw [h y hy]
    simp
  rw [if_neg (by rw [hn]; simp)]

section
variable {F : Fx} {num : ByteArray → Nat} {kw : ByteArray → Prop} {s : Df}

theorem Inv.known (h : Inv F num kw s) {c : Nat} {x : En} (hv : val F s c = some x) : kw x.key := by
  rcases val_some hv with ⟨a, _, ht, rfl⟩ | ⟨n, _, _, hs, rfl⟩
  · unfold th at ht
    simp only [Bool.and_eq_true, decide_eq_true_eq] at ht
    have := h.came
    exact (h.kr a (by omega)).1
  · exact (h.ka n hs).1

/-- With which number something stands in the list. -/
theorem Inv.nmb (h : Inv F num kw s) {c : Nat} {x : En} (hv : val F s c = some x) : (∃ a, c = a * (F.K + 1) + F.K ∧ th F s a = true ∧ num x.key = F.k a ∧ a < s.came ∧ s.f (F.k a) ≤ a) ∨ (∃ n, n < F.K ∧ c = s.g n * (F.K + 1) + n ∧ s.st n = true ∧ num x.key = n) := by
  rcases val_some hv with ⟨a, hc, ht, rfl⟩ | ⟨n, hn, hc, hs, rfl⟩
  · have ht2 := ht
    unfold th at ht2
    simp only [Bool.and_eq_true, decide_eq_true_eq] at ht2
    have := h.came
    exact .inl ⟨a, hc, ht, (h.kr a (by omega)).2, ht2.1, ht2.2⟩
  · exact .inr ⟨n, hn, hc, hs, (h.ka n hs).2⟩

theorem Inv.is (h : Inv F num kw s) {c : Nat} {x : En} (hv : val F s c = some x) {key : ByteArray} (hk : kw key) : Pg.is key x = decide (num x.key = num key) := by
  unfold Pg.is
  exact h.nu.is _ _ (h.known hv) hk

theorem Inv.gr (h : Inv F num kw s) {c : Nat} {x : En} (hv : val F s c = some x) {key : ByteArray} (hk : kw key) : Ky.lt key x.key = decide (num key < num x.key) := h.nu.le _ _ hk (h.known hv)
theorem Inv.ls (h : Inv F num kw s) {c : Nat} {x : En} (hv : val F s c = some x) {key : ByteArray} (hk : kw key) : Ky.lt x.key key = decide (num x.key < num key) := h.nu.le _ _ (h.known hv) hk

/-- Ahead of an entry in a gap stands none with its key. -/
theorem Inv.first_gap (h : Inv F num kw s) {n : Nat} (hs : s.st n = true) {key : ByteArray} (hk : kw key) (hn : num key = n) : ∀ y ∈ (List.range (s.g n * (F.K + 1) + n)).filterMap (val F s), Pg.is key y = false := by
  intro y hy
  obtain ⟨d, hd, hv⟩ := mem_pre hy
  have hnK := (h.st n hs).1
  rw [h.is hv hk, hn, decide_eq_false_iff_not]
  intro he
  rcases h.nmb hv with ⟨a, hc, ht, hna, _, _⟩ | ⟨m, hm, hc, hsm, hna⟩
  · have := h.ahead n a hs ht (by omega)
    rw [hc] at hd
    have := lt_code hd (Nat.le_refl _) (by omega)
    omega
  · have : m = n := by omega
    subst this
    omega

theorem Inv.first_row (h : Inv F num kw s) {n : Nat} (hs : s.st n = false) {key : ByteArray} (hk : kw key) (hn : num key = n) : ∀ y ∈ (List.range (s.f n * (F.K + 1) + F.K)).filterMap (val F s), Pg.is key y = false := by
  intro y hy
  obtain ⟨d, hd, hv⟩ := mem_pre hy
  rw [h.is hv hk, hn, decide_eq_false_iff_not]
  intro he
  rcases h.nmb hv with ⟨a, hc, ht, hna, h1, h2⟩ | ⟨m, hm, hc, hsm, hna⟩
  · rw [hc] at hd
    have := lt_code hd (Nat.le_refl _) (by omega)
    have e : F.k a = n := by omega
    rw [e] at h2
    omega
  · have : m = n := by omega
    subst this
    rw [hs] at hsm
    cases hsm

theorem Inv.none (h : Inv F num kw s) {n : Nat} (hs : s.st n = false) (hf : s.came ≤ s.f n) {key : ByteArray} (hk : kw key) (hn : num key = n) : ∀ y ∈ view F s, Pg.is key y = false := by
  intro y hy
  obtain ⟨d, hd, hv⟩ := mem_pre hy
  rw [h.is hv hk, hn, decide_eq_false_iff_not]
  intro he
  rcases h.nmb hv with ⟨a, hc, ht, hna, h1, h2⟩ | ⟨m, hm, hc, hsm, hna⟩
  · have e : F.k a = n := by omega
    rw [e] at h2
    omega
  · have : m = n := by omega
    subst this
    rw [hs] at hsm
    cases hsm
end

theorem getD_set {α : Type} (l : List α) (i j : Nat) (x d : α) (hi : i < l.length) : (l.set i x).getD j d = if j = i then x else l.getD j d := by
  by_cases h : j = i
  · subst h
    simp [List.getD, hi]
  · simp [List.getD, h, Ne.symm h]

def putA (s : Df) (n : Nat) (e : En) : Df := { s with al := s.al.set n e }
def putR (s : Df) (a : Nat) (e : En) : Df := { s with row := s.row.set a e }
def putN (s : Df) (n : Nat) (e : En) (g : Nat) : Df := { s with al := s.al.set n e, gp := s.gp.set n g, st := fun m => if m = n then true else s.st m }
def rmA (s : Df) (n : Nat) : Df := { s with st := fun m => if m = n then false else s.st m }
def take (F : Fx) (s : Df) (a : Nat) : Df := { s with fs := s.fs.set (F.k a) (F.n a) }
def come1 (s : Df) : Df := { s with came := s.came + 1 }

/-- Where one that is new is to stand. -/
structure Gap (F : Fx) (s : Df) (n g : Nat) : Prop where
  came : g ≤ s.came
  row : ∀ a, th F s a = true → n < F.k a → g ≤ a
  gap : ∀ m, s.st m = true → n < m → g ≤ s.g m
  one : g = s.came ∨ (th F s g = true ∧ n < F.k g) ∨ ∃ m, s.st m = true ∧ n < m ∧ s.g m = g

section
variable {F : Fx} {num : ByteArray → Nat} {kw : ByteArray → Prop} {s : Df}

theorem putA_inv (h : Inv F num kw s) {n : Nat} {e : En} (hs : s.st n = true) (hk : kw e.key) (hn : num e.key = n) : Inv F num kw (putA s n e) := by
  have hl := h.la
  have hnK := (h.st n hs).1
  refine { h with la := by simpa [putA] using hl, ka := fun m hm => ?_ }
  show kw (Df.a (putA s n e) m).key ∧ num (Df.a (putA s n e) m).key = m
  unfold Df.a putA
  simp only
  rw [getD_set _ _ _ _ _ (by omega)]
  split
  · rename_i hmn; subst hmn; exact ⟨hk, hn⟩
  · exact h.ka m hm

theorem putA_view (h : Inv F num kw s) {n : Nat} {e : En} (hs : s.st n = true) (hk : kw e.key) (hn : num e.key = n) : view F (putA s n e) = Pg.putL (view F s) e := by
  have hl := h.la
  obtain ⟨hnK, hg⟩ := h.st n hs
  have hc : s.g n * (F.K + 1) + n < top F s := code_lt (by omega) (by omega)
  have hv : val F s (s.g n * (F.K + 1) + n) = some (s.a n) := by rw [val_gap _ _ _ _ hnK, hs]; simp
  have hv' : val F (putA s n e) (s.g n * (F.K + 1) + n) = some e := by
    rw [val_gap _ _ _ _ hnK]
    have : (putA s n e).a n = e := by unfold Df.a putA; simp only; rw [getD_set _ _ _ _ _ (by omega), if_pos rfl]
    rw [this]
    show (if s.st n && decide (s.g n = s.g n) then some e else none) = some e
    rw [hs]; simp
  rw [view_turn F s (putA s n e) _ hc rfl, hv', view_split F s _ hc, hv]
  · exact (putL_same (h.first_gap hs hk hn) (by rw [h.is hv hk, (h.ka n hs).2, hn]; simp)).symm
  · intro d hd
    obtain ⟨e1, e2⟩ := code_of F.K d
    rw [e1]
    by_cases hK : d % (F.K + 1) = F.K
    · rw [hK, val_row, val_row]; rfl
    · rw [val_gap _ _ _ _ (by omega), val_gap _ _ _ _ (by omega)]
      show (if s.st _ && decide (s.g _ = _) then some ((putA s n e).a _) else none) = _
      by_cases hm : d % (F.K + 1) = n
      · have : s.g n ≠ d / (F.K + 1) := fun hh => hd (by rw [e1, hm, hh])
        rw [hm]
        simp [this]
      · have : (putA s n e).a (d % (F.K + 1)) = s.a (d % (F.K + 1)) := by unfold Df.a putA; simp only; rw [getD_set _ _ _ _ _ (by omega), if_neg hm]
        rw [this]

theorem putR_inv (h : Inv F num kw s) {n : Nat} {e : En} (hn : n < F.K) (hf : s.f n < s.came) (hk : kw e.key) (hne : num e.key = n) : Inv F num kw (putR s (s.f n) e) := by
  have hl := h.lr
  have hc := h.came
  refine { h with lr := by simpa [putR] using hl, kr := fun a ha => ?_ }
  unfold Df.r putR
  simp only
  rw [getD_set _ _ _ _ _ (by omega)]
  split
  · rename_i hmn; subst hmn; exact ⟨hk, by rw [h.fkey n hn (by omega)]; exact hne⟩
  · exact h.kr a ha

theorem putR_view (h : Inv F num kw s) {n : Nat} {e : En} (hn : n < F.K) (hs : s.st n = false) (hf : s.f n < s.came) (hk : kw e.key) (hne : num e.key = n) : view F (putR s (s.f n) e) = Pg.putL (view F s) e := by
  have hl := h.lr
  have hcm := h.came
  have hkf := h.fkey n hn (by omega)
  have hth : th F s (s.f n) = true := by unfold th; rw [hkf]; simp [hf]
  have hc : s.f n * (F.K + 1) + F.K < top F s := code_lt (Nat.le_refl _) (by omega)
  have hv : val F s (s.f n * (F.K + 1) + F.K) = some (s.r (s.f n)) := by rw [val_row, if_pos hth]
  have hv' : val F (putR s (s.f n) e) (s.f n * (F.K + 1) + F.K) = some e := by
    rw [val_row, show th F (putR s (s.f n) e) (s.f n) = th F s (s.f n) from rfl, if_pos hth]
    unfold Df.r putR
    simp only
    rw [getD_set _ _ _ _ _ (by omega), if_pos rfl]
  rw [view_turn F s (putR s (s.f n) e) _ hc rfl, hv', view_split F s _ hc, hv]
  · refine (putL_same (h.first_row hs hk hne) ?_).symm
    rw [h.is hv hk, (h.kr _ (by omega)).2, hkf, hne]; simp
  · intro d hd
    obtain ⟨e1, e2⟩ := code_of F.K d
    rw [e1]
    by_cases hK : d % (F.K + 1) = F.K
    · rw [hK, val_row, val_row]
      have hne2 : d / (F.K + 1) ≠ s.f n := fun hh => hd (by rw [e1, hK, hh])
      have : (putR s (s.f n) e).r (d / (F.K + 1)) = s.r (d / (F.K + 1)) := by unfold Df.r putR; simp only; rw [getD_set _ _ _ _ _ (by omega), if_neg hne2]
      rw [this]; rfl
    · rw [val_gap _ _ _ _ (by omega), val_gap _ _ _ _ (by omega)]; rfl

theorem putN_g (h : Inv F num kw s) {n g : Nat} {e : En} (hn : n < F.K) (m : Nat) : (putN s n e g).g m = if m = n then g else s.g m := by
  have := h.lg
  unfold Df.g putN
  simp only
  rw [getD_set _ _ _ _ _ (by omega)]
theorem putN_a (h : Inv F num kw s) {n g : Nat} {e : En} (hn : n < F.K) (m : Nat) : (putN s n e g).a m = if m = n then e else s.a m := by
  have := h.la
  unfold Df.a putN
  simp only
  rw [getD_set _ _ _ _ _ (by omega)]

theorem putN_inv (h : Inv F num kw s) {n g : Nat} {e : En} (hn : n < F.K) (hs : s.st n = false) (hf : s.came ≤ s.f n) (hg : Gap F s n g) (hk : kw e.key) (hne : num e.key = n) : Inv F num kw (putN s n e g) := by
  have hl := h.la
  have hl2 := h.lg
  have hst : ∀ m, (putN s n e g).st m = if m = n then true else s.st m := fun m => rfl
  refine { h with la := by simpa [putN] using hl, lg := by simpa [putN] using hl2, st := fun m hm => ?_, rise := fun m k hm hk2 hlt => ?_, ahead := fun m a hm ht hle => ?_, ka := fun m hm => ?_ }
  · rw [hst] at hm
    rw [putN_g h hn]
    split
    · rename_i hh; subst hh; exact ⟨hn, hg.came⟩
    · rename_i hh; rw [if_neg hh] at hm; exact h.st m hm
  · rw [hst] at hm hk2
    rw [putN_g h hn, putN_g h hn]
    by_cases h1 : m = n
    · subst h1
      rw [if_neg (by omega)] at hk2
      rw [if_pos rfl, if_neg (by omega)]
      exact hg.gap k hk2 hlt
    · rw [if_neg h1] at hm
      rw [if_neg h1]
      by_cases h2 : k = n
      · subst h2
        rw [if_pos rfl]
        rcases hg.one with h3 | ⟨h3, h4⟩ | ⟨q, h3, h4, h5⟩
        · rw [h3]; exact (h.st m hm).2
        · exact h.ahead m g hm h3 (by omega)
        · rw [← h5]; exact h.rise m q hm h3 (by omega)
      · rw [if_neg h2] at hk2 ⊢
        exact h.rise m k hm hk2 hlt
  · rw [hst] at hm
    rw [putN_g h hn]
    have ht2 : th F s a = true := ht
    by_cases h1 : m = n
    · subst h1
      rw [if_pos rfl]
      by_cases h2 : F.k a = m
      · unfold th at ht2
        simp only [Bool.and_eq_true, decide_eq_true_eq] at ht2
        rw [h2] at ht2
        omega
      · exact hg.row a ht2 (by omega)
    · rw [if_neg h1] at hm ⊢
      exact h.ahead m a hm ht2 hle
  · rw [hst] at hm
    rw [putN_a h hn]
    split
    · rename_i hh; subst hh; exact ⟨hk, hne⟩
    · rename_i hh; rw [if_neg hh] at hm; exact h.ka m hm

/-- The first of some that are there. -/
theorem head_fm (f : Nat → Option En) (p : En → Bool) : ∀ N c, (∀ d, c ≤ d → d < c + N → ∀ x, f d = some x → p x = true ∨ ∃ d' y, c ≤ d' ∧ d' < d ∧ f d' = some y ∧ p y = true) → (List.range' c N).filterMap f = [] ∨ ∃ x r, (List.range' c N).filterMap f = x :: r ∧ p x = true := by
  intro N
  induction N with
  | zero => intro c _; left; rfl
  | succ N ih =>
    intro c hc
    rw [List.range'_succ, List.filterMap_cons]
    cases hf : f c with
    | some x =>
      right
      refine ⟨x, _, rfl, ?_⟩
      rcases hc c (Nat.le_refl _) (by omega) x hf with h | ⟨d', y, h1, h2, _⟩
      · exact h
      · omega
    | none =>
      refine ih (c + 1) fun d h1 h2 x hx => ?_
      rcases hc d (by omega) (by omega) x hx with h | ⟨d', y, h3, h4, h5, h6⟩
      · exact .inl h
      · refine .inr ⟨d', y, ?_, h4, h5, h6⟩
        by_cases hd : d' = c
        · subst hd; rw [hf] at h5; cases h5
        · omega

theorem putN_view (h : Inv F num kw s) {n g : Nat} {e : En} (hn : n < F.K) (hs : s.st n = false) (hf : s.came ≤ s.f n) (hg : Gap F s n g) (hk : kw e.key) (hne : num e.key = n) : view F (putN s n e g) = Pg.putL (view F s) e := by
  have hc : g * (F.K + 1) + n < top F s := code_lt (by omega) (by have := hg.came; omega)
  have hv : val F s (g * (F.K + 1) + n) = none := by rw [val_gap _ _ _ _ hn, hs]; simp
  have hv' : val F (putN s n e g) (g * (F.K + 1) + n) = some e := by
    rw [val_gap _ _ _ _ hn, putN_g h hn, putN_a h hn]
    show (if (if n = n then true else s.st n) && _ then _ else _) = _
    simp
  have hnone := h.none hs hf hk hne
  rw [view_turn F s (putN s n e g) _ hc rfl, hv', view_split F s _ hc, hv]
  · rw [view_split F s _ hc, hv] at hnone
    simp only [Option.toList_none, List.nil_append, Option.toList_some, List.singleton_append] at hnone ⊢
    refine (putL_new hnone (fun y hy => ?_) ?_).symm
    · obtain ⟨d, hd, hy2⟩ := mem_pre hy
      rw [h.gr hy2 hk, hne, decide_eq_false_iff_not]
      intro hlt
      rcases h.nmb hy2 with ⟨a, hca, ht, hna, _, _⟩ | ⟨m, hm, hca, hsm, hna⟩
      · rw [hca] at hd
        have h1 := lt_code hd (Nat.le_refl _) (by omega)
        have h2 := hg.row a ht (by omega)
        omega
      · rw [hca] at hd
        have h1 := lt_code hd (by omega) (by omega)
        have h2 := hg.gap m hsm (by omega)
        omega
    · refine head_fm (val F s) (fun x => Ky.lt e.key x.key) _ _ fun d h1 h2 x hx => ?_
      have hd2 : d < top F s := by omega
      by_cases hdK : d < g * (F.K + 1) + F.K
      · left
        rw [h.gr hx hk, hne, decide_eq_true_eq]
        rcases h.nmb hx with ⟨a, hca, ht, hna, _, _⟩ | ⟨m, hm, hca, hsm, hna⟩
        · rw [hca] at h1 hdK
          have h3 := lt_code hdK (Nat.le_refl _) (Nat.le_refl _)
          have h4 := lt_code (show g * (F.K + 1) + n < a * (F.K + 1) + F.K by omega) (by omega) (Nat.le_refl _)
          omega
        · rw [hca] at h1 hdK
          have h3 := lt_code hdK (by omega) (Nat.le_refl _)
          have h4 := lt_code (show g * (F.K + 1) + n < s.g m * (F.K + 1) + m by omega) (by omega) (by omega)
          omega
      · have hgc : g < s.came := by
          have h3 : g * (F.K + 1) + F.K < s.came * (F.K + 1) + F.K := by unfold top at hd2; omega
          have := lt_code h3 (Nat.le_refl _) (Nat.le_refl _)
          omega
        rcases hg.one with h3 | ⟨h3, h4⟩ | ⟨m, h3, h4, h5⟩
        · omega
        · have hvg : val F s (g * (F.K + 1) + F.K) = some (s.r g) := by rw [val_row, if_pos h3]
          have hpg : Ky.lt e.key (s.r g).key = true := by
            rw [h.gr hvg hk, hne, decide_eq_true_eq, (h.kr g (by have := h.came; omega)).2]
            exact h4
          by_cases h6 : d = g * (F.K + 1) + F.K
          · left
            rw [h6, hvg] at hx
            cases hx
            exact hpg
          · exact .inr ⟨_, _, by omega, by omega, hvg, hpg⟩
        · have hmK := (h.st m h3).1
          have hvg : val F s (g * (F.K + 1) + m) = some (s.a m) := by rw [val_gap _ _ _ _ hmK, h3, h5]; simp
          refine .inr ⟨_, _, ?_, ?_, hvg, ?_⟩
          · omega
          · omega
          · show Ky.lt e.key (s.a m).key = true
            rw [h.gr hvg hk, hne, decide_eq_true_eq, (h.ka m h3).2]
            exact h4
  · intro d hd
    obtain ⟨e1, e2⟩ := code_of F.K d
    rw [e1]
    by_cases hK : d % (F.K + 1) = F.K
    · rw [hK, val_row, val_row]; rfl
    · rw [val_gap _ _ _ _ (by omega), val_gap _ _ _ _ (by omega), putN_g h hn, putN_a h hn]
      show (if (if d % (F.K + 1) = n then true else s.st _) && _ then _ else _) = _
      by_cases hm : d % (F.K + 1) = n
      · have : g ≠ d / (F.K + 1) := fun hh => hd (by rw [e1, hm, hh])
        rw [hm, hs]
        simp [this]
      · rw [if_neg hm, if_neg hm, if_neg hm]
end
end Dr
end Go.Proofs.YtoehlgigidgfpaaGreat

namespace Go.Proofs.YtoehlgigidgfpaaGreat
set_option linter.unusedVariables false
set_option maxRecDepth 100000

namespace Dr
section
variable {F : Fx} {num : ByteArray → Nat} {kw : ByteArray → Prop} {s : Df}

theorem rmA_inv (h : Inv F num kw s) (n : Nat) : Inv F num kw (rmA s n) := by
  have hst : ∀ m, (rmA s n).st m = true → s.st m = true := by
    intro m hm
    have : (if m = n then false else s.st m) = true := hm
    split at this
    · cases this
    · exact this
  exact { h with st := fun m hm => h.st m (hst m hm), rise := fun m k hm hk => h.rise m k (hst m hm) (hst k hk), ahead := fun m a hm => h.ahead m a (hst m hm), ka := fun m hm => h.ka m (hst m hm) }

theorem rmA_view (h : Inv F num kw s) {n : Nat} {key : ByteArray} (hs : s.st n = true) (hk : kw key) (hn : num key = n) : view F (rmA s n) = without (view F s) key := by
  obtain ⟨hnK, hg⟩ := h.st n hs
  have hc : s.g n * (F.K + 1) + n < top F s := code_lt (by omega) (by omega)
  have hv : val F s (s.g n * (F.K + 1) + n) = some (s.a n) := by rw [val_gap _ _ _ _ hnK, hs]; simp
  have hv' : val F (rmA s n) (s.g n * (F.K + 1) + n) = none := by
    rw [val_gap _ _ _ _ hnK]
    show (if (if n = n then false else s.st n) && _ then _ else _) = _
    simp
  rw [view_turn F s (rmA s n) _ hc rfl, hv', view_split F s _ hc, hv]
  · exact (without_same (h.first_gap hs hk hn) (by rw [h.is hv hk, (h.ka n hs).2, hn]; simp)).symm
  · intro d hd
    obtain ⟨e1, e2⟩ := code_of F.K d
    rw [e1]
    by_cases hK : d % (F.K + 1) = F.K
    · rw [hK, val_row, val_row]; rfl
    · rw [val_gap _ _ _ _ (by omega), val_gap _ _ _ _ (by omega)]
      show (if (if d % (F.K + 1) = n then false else s.st _) && _ then _ else _) = _
      by_cases hm : d % (F.K + 1) = n
      · have : s.g n ≠ d / (F.K + 1) := fun hh => hd (by rw [e1, hm, hh])
        rw [hm]
        simp [this]
      · rw [if_neg hm]; rfl

theorem take_f (h : Inv F num kw s) {a : Nat} (ha : a < F.R) (n : Nat) : (take F s a).f n = if n = F.k a then F.n a else s.f n := by
  have h1 := h.lf
  have h2 := h.fx.key a ha
  unfold Df.f take
  simp only
  rw [getD_set _ _ _ _ _ (by omega)]

theorem take_th (h : Inv F num kw s) {a : Nat} (ha : a < s.came) (hf : s.f (F.k a) = a) (b : Nat) : th F (take F s a) b = (th F s b && decide (b ≠ a)) := by
  have hc := h.came
  unfold th
  rw [take_f h (by omega)]
  show (decide (b < s.came) && _) = _
  by_cases hb : b < s.came
  · by_cases hk : F.k b = F.k a
    · rw [if_pos hk, hk, hf]
      have h1 := h.fx.gt a (by omega)
      by_cases hba : b = a
      · subst hba
        simp; omega
      · by_cases hlt : a < b
        · have : F.n a ≤ b := by
            by_cases h2 : F.n a ≤ b
            · exact h2
            · exact absurd hk (h.fx.next a b (by omega) hlt (by omega))
          simp [hb, this, hba]; omega
        · have h2 : ¬ F.n a ≤ b := by omega
          have h3 : ¬ a ≤ b := by omega
          simp [h2, h3]
    · rw [if_neg hk]
      have : b ≠ a := fun e => hk (by rw [e])
      simp [this]
  · simp [hb]

theorem take_inv (h : Inv F num kw s) {a : Nat} (ha : a < s.came) (hf : s.f (F.k a) = a) : Inv F num kw (take F s a) := by
  have hc := h.came
  have hl := h.lf
  have hg := h.fx.gt a (by omega)
  refine { h with lf := by simpa [take] using hl, ahead := fun m b hm ht hle => ?_, fle := fun n hn => ?_, fkey := fun n hn hlt => ?_, left := fun b h1 h2 => ?_ }
  · rw [take_th h ha hf] at ht
    simp only [Bool.and_eq_true] at ht
    exact h.ahead m b hm ht.1 hle
  · rw [take_f h (by omega)]
    split
    · exact h.fx.le a (by omega)
    · exact h.fle n hn
  · rw [take_f h (by omega)] at hlt ⊢
    split
    · rename_i e
      rw [if_pos e] at hlt
      rw [e]
      exact h.fx.same a (by omega) hlt
    · rename_i e
      rw [if_neg e] at hlt
      exact h.fkey n hn hlt
  · have h3 : s.came ≤ b := h1
    rw [take_f h (by omega)]
    split
    · rename_i e
      by_cases h4 : F.n a ≤ b
      · exact h4
      · exact absurd e (h.fx.next a b (by omega) (by omega) (by omega))
    · exact h.left b h3 h2

theorem take_val (h : Inv F num kw s) {a : Nat} (ha : a < s.came) (hf : s.f (F.k a) = a) (d : Nat) : val F (take F s a) d = if d = a * (F.K + 1) + F.K then none else val F s d := by
  obtain ⟨e1, e2⟩ := code_of F.K d
  rw [e1]
  by_cases hK : d % (F.K + 1) = F.K
  · rw [hK, val_row, val_row, take_th h ha hf]
    by_cases hd : d / (F.K + 1) = a
    · rw [hd]; simp
    · have : ¬ d / (F.K + 1) * (F.K + 1) + F.K = a * (F.K + 1) + F.K := by
        intro e
        have := congrArg (· / (F.K + 1)) e
        simp only [div_code _ _ _ (Nat.le_refl F.K)] at this
        exact hd this
      rw [if_neg this]
      simp only [ne_eq, hd, not_false_eq_true, decide_true, Bool.and_true]
      rfl
  · rw [val_gap _ _ _ _ (by omega), val_gap _ _ _ _ (by omega)]
    have : ¬ d / (F.K + 1) * (F.K + 1) + d % (F.K + 1) = a * (F.K + 1) + F.K := by
      intro e
      have := congrArg (· % (F.K + 1)) e
      simp only [mod_code _ _ _ (Nat.le_refl F.K), mod_code _ _ _ e2] at this
      exact hK this
    rw [if_neg this]
    rfl

theorem take_view (h : Inv F num kw s) {n : Nat} {key : ByteArray} (hn : n < F.K) (hs : s.st n = false) (hf : s.f n < s.came) (hk : kw key) (hne : num key = n) : view F (take F s (s.f n)) = without (view F s) key := by
  have hcm := h.came
  have hkf := h.fkey n hn (by omega)
  have hth : th F s (s.f n) = true := by unfold th; rw [hkf]; simp [hf]
  have hc : s.f n * (F.K + 1) + F.K < top F s := code_lt (Nat.le_refl _) (by omega)
  have hv : val F s (s.f n * (F.K + 1) + F.K) = some (s.r (s.f n)) := by rw [val_row, if_pos hth]
  have tv := take_val h hf (by rw [hkf])
  rw [view_turn F s (take F s (s.f n)) _ hc rfl (fun d hd => by rw [tv, if_neg hd]), tv, if_pos rfl, view_split F s _ hc, hv]
  refine (without_same (h.first_row hs hk hne) ?_).symm
  rw [h.is hv hk, (h.kr _ (by omega)).2, hkf, hne]; simp

theorem none_view (h : Inv F num kw s) {n : Nat} {key : ByteArray} (hs : s.st n = false) (hf : s.came ≤ s.f n) (hk : kw key) (hne : num key = n) : without (view F s) key = view F s := without_none (h.none hs hf hk hne)

theorem come_inv (h : Inv F num kw s) (hc : s.came < F.R) : Inv F num kw (come1 s) := by
  refine { h with came := hc, st := fun n hn => ?_, ahead := fun m a hm ht hle => ?_, left := fun a h1 h2 => h.left a (by have : s.came + 1 ≤ a := h1; omega) h2 }
  · obtain ⟨h1, h2⟩ := h.st n hn
    exact ⟨h1, by show s.g n ≤ s.came + 1; omega⟩
  · have ht2 : th F (come1 s) a = true := ht
    unfold th at ht2
    simp only [Bool.and_eq_true, decide_eq_true_eq] at ht2
    obtain ⟨t1, t2⟩ := ht2
    have t3 : a < s.came + 1 := t1
    by_cases hlt : a < s.came
    · refine h.ahead m a hm ?_ hle
      unfold th
      have t4 : s.f (F.k a) ≤ a := t2
      simp [hlt, t4]
    · have := (h.st m hm).2
      show s.g m ≤ a
      omega

theorem come_view (h : Inv F num kw s) (hc : s.came < F.R) : view F (come1 s) = view F s ++ [s.r s.came] := by
  have hl := h.left s.came (Nat.le_refl _) hc
  unfold view
  have e : top F (come1 s) = s.came * (F.K + 1) + F.K + (1 + F.K) := by
    show (s.came + 1) * (F.K + 1) + F.K = _
    rw [Nat.succ_mul]; omega
  have e0 : top F s = s.came * (F.K + 1) + F.K := rfl
  rw [e, e0]
  have e5 : List.range (1 + F.K) = List.range 1 ++ (List.range F.K).map (fun x => 1 + x) := List.range_add
  have e6 : ∀ M, List.range (M + (1 + F.K)) = List.range M ++ (List.range (1 + F.K)).map (fun x => M + x) := fun M => List.range_add
  rw [e6, List.filterMap_append, e5, List.map_append, List.filterMap_append]
  congr 1
  · refine fm_congr fun d hd => ?_
    have hd2 := List.mem_range.1 hd
    obtain ⟨e1, e2⟩ := code_of F.K d
    rw [e1] at hd2 ⊢
    by_cases hK : d % (F.K + 1) = F.K
    · rw [hK] at hd2
      rw [hK, val_row, val_row]
      have h1 := lt_code hd2 (Nat.le_refl _) (Nat.le_refl _)
      have h2 : th F (come1 s) (d / (F.K + 1)) = th F s (d / (F.K + 1)) := by
        unfold th
        show (decide (_ < s.came + 1) && _) = _
        have a1 : d / (F.K + 1) < s.came := by omega
        have a2 : d / (F.K + 1) < s.came + 1 := by omega
        simp only [a1, a2, decide_true, Bool.true_and]
        rfl
      rw [h2]; rfl
    · rw [val_gap _ _ _ _ (by omega), val_gap _ _ _ _ (by omega)]; rfl
  · have h1 : val F (come1 s) (s.came * (F.K + 1) + F.K) = some (s.r s.came) := by
      rw [val_row]
      have : th F (come1 s) s.came = true := by
        unfold th
        show (decide (s.came < s.came + 1) && decide (s.f _ ≤ _)) = true
        simp [hl]
      rw [this]; rfl
    have h2 : ((List.map (fun x => 1 + x) (List.range F.K)).map (fun x => s.came * (F.K + 1) + F.K + x)).filterMap (val F (come1 s)) = [] := by
      rw [List.filterMap_eq_nil_iff]
      intro d hd
      simp only [List.mem_map, List.mem_range] at hd
      obtain ⟨x, ⟨y, hy, rfl⟩, rfl⟩ := hd
      have : s.came * (F.K + 1) + F.K + (1 + y) = (s.came + 1) * (F.K + 1) + y := by rw [Nat.succ_mul]; omega
      rw [this, val_gap _ _ _ _ hy]
      show (if s.st y && decide (s.g y = _) then _ else _) = _
      cases hs : s.st y with
      | false => simp
      | true =>
        have := (h.st y hs).2
        have hne : ¬ s.g y = s.came + 1 := by omega
        simp [hne]
    simp only [List.range_one, List.map_cons, List.map_nil, Nat.add_zero]
    rw [List.filterMap_cons, h1]
    simp only [List.filterMap_nil, List.singleton_append]
    rw [h2]

/-- All from a number on are taken away. -/
structure Cutd (F : Fx) (s s' : Df) (n : Nat) : Prop where
  came : s'.came = s.came
  row : s'.row = s.row
  al : s'.al = s.al
  gp : s'.gp = s.gp
  st : ∀ m, s'.st m = (s.st m && decide (m < n))
  th : ∀ a, th F s' a = (th F s a && decide (F.k a < n))

theorem cut_view {s' : Df} (h : Inv F num kw s) {n : Nat} {key : ByteArray} (hc : Cutd F s s' n) (hk : kw key) (hne : num key = n) : view F s' = (view F s).filter fun e => Ky.lt e.key key := by
  unfold view
  have e : top F s' = top F s := by unfold top; rw [hc.came]
  rw [e, List.filter_filterMap]
  refine fm_congr fun d hd => ?_
  have hr : ∀ a, s'.r a = s.r a := fun a => by unfold Df.r; rw [hc.row]
  have ha : ∀ a, s'.a a = s.a a := fun a => by unfold Df.a; rw [hc.al]
  have hg : ∀ a, s'.g a = s.g a := fun a => by unfold Df.g; rw [hc.gp]
  obtain ⟨e1, e2⟩ := code_of F.K d
  rw [e1]
  cases hv : val F s (d / (F.K + 1) * (F.K + 1) + d % (F.K + 1)) with
  | none =>
    by_cases hK : d % (F.K + 1) = F.K
    · rw [hK, val_row] at hv ⊢
      rw [hc.th]
      split at hv
      · cases hv
      · rename_i h0
        simp [h0]
    · rw [val_gap _ _ _ _ (by omega)] at hv ⊢
      rw [hc.st, hg]
      split at hv
      · cases hv
      · rename_i h0
        simp only [Option.filter_none]
        rw [if_neg]
        simp only [Bool.and_eq_true, decide_eq_true_eq] at h0 ⊢
        exact fun hh => h0 ⟨hh.1.1, hh.2⟩
  | some x =>
    have hlt := h.ls hv hk
    rw [hne] at hlt
    by_cases hK : d % (F.K + 1) = F.K
    · rw [hK] at hv ⊢
      rcases h.nmb hv with ⟨a, hca, ht, hna, _, _⟩ | ⟨m, hm, hca, hsm, hna⟩
      · have : a = d / (F.K + 1) := by
          have := congrArg (· / (F.K + 1)) hca
          simp only [div_code _ _ _ (Nat.le_refl F.K)] at this
          exact this.symm
        subst this
        rw [val_row, if_pos ht] at hv
        cases hv
        rw [val_row, hc.th, ht, hr]
        simp only [Option.filter, Bool.true_and, hlt, hna]
      · have := congrArg (· % (F.K + 1)) hca
        simp only [mod_code _ _ _ (Nat.le_refl F.K), mod_code _ _ _ (show m ≤ F.K by omega)] at this
        omega
    · rcases h.nmb hv with ⟨a, hca, ht, hna, _, _⟩ | ⟨m, hm, hca, hsm, hna⟩
      · have := congrArg (· % (F.K + 1)) hca
        simp only [mod_code _ _ _ (Nat.le_refl F.K), mod_code _ _ _ e2] at this
        omega
      · have e4 := congrArg (· % (F.K + 1)) hca
        simp only [mod_code _ _ _ (show m ≤ F.K by omega), mod_code _ _ _ e2] at e4
        have e5 := congrArg (· / (F.K + 1)) hca
        simp only [div_code _ _ _ (show m ≤ F.K by omega), div_code _ _ _ e2] at e5
        rw [e4, e5] at hv ⊢
        rw [val_gap _ _ _ _ hm, hsm] at hv
        simp only [decide_true, Bool.and_self, if_true, Option.some.injEq] at hv
        subst hv
        rw [val_gap _ _ _ _ hm, hc.st, hg, ha, hsm]
        simp only [Option.filter, Bool.true_and, hlt, hna, decide_true, Bool.and_true]

/-- What is told up to a number. -/
def pv (F : Fx) (s : Df) (c : Nat) : List En := (List.range c).filterMap (val F s)

theorem pv_succ (F : Fx) (s : Df) (c : Nat) : pv F s (c + 1) = pv F s c ++ (val F s c).toList := by
  unfold pv
  rw [List.range_succ, List.filterMap_append]
  congr 1

theorem pv_skip (F : Fx) (s : Df) (at' n : Nat) : ∀ k, n + k ≤ F.K → (∀ m, n ≤ m → m < n + k → s.st m = false ∨ s.g m ≠ at') → pv F s (at' * (F.K + 1) + (n + k)) = pv F s (at' * (F.K + 1) + n) := by
  intro k
  induction k with
  | zero => intro _ _; rfl
  | succ k ih =>
    intro hk hall
    rw [← Nat.add_assoc, ← Nat.add_assoc, pv_succ, Nat.add_assoc, ih (by omega) fun m h1 h2 => hall m h1 (by omega)]
    have : val F s (at' * (F.K + 1) + (n + k)) = none := by
      rw [val_gap _ _ _ _ (by omega)]
      rcases hall (n + k) (by omega) (by omega) with h | h
      · simp [h]
      · simp [h]
    rw [this]; simp

theorem pv_gap (F : Fx) (s : Df) (n : Nat) (hn : n < F.K) (hs : s.st n = true) : pv F s (s.g n * (F.K + 1) + (n + 1)) = pv F s (s.g n * (F.K + 1) + n) ++ [s.a n] := by
  rw [← Nat.add_assoc, pv_succ, val_gap _ _ _ _ hn, hs]; simp

theorem pv_row (F : Fx) (s : Df) (a : Nat) : pv F s ((a + 1) * (F.K + 1)) = pv F s (a * (F.K + 1) + F.K) ++ (if th F s a then [s.r a] else []) := by
  rw [Nat.succ_mul, ← Nat.add_assoc, pv_succ, val_row]
  cases th F s a <;> rfl

end
end Dr
end Go.Proofs.YtoehlgigidgfpaaGreat

namespace Go.Proofs.YtoehlgigidgfpaaGreat
open Go.Lib
set_option linter.unusedVariables false
set_option maxRecDepth 100000

namespace Dr
/-- Keys that rise, each once. -/
def Rise (ks : List (List UInt8)) : Prop := ks.Pairwise (· < ·)

def num (ks : List (List UInt8)) (key : ByteArray) : Nat := ks.findIdx fun k => !Op.bytesLess k key.toList
def kw (ks : List (List UInt8)) (key : ByteArray) : Prop := key.toList ∈ ks

theorem Rise.lt {ks : List (List UInt8)} (h : Rise ks) {i j : Nat} (hj : j < ks.length) (hij : i < j) : ks[i] < ks[j] := List.pairwise_iff_getElem.1 h i j (by omega) hj hij

theorem Rise.iff {ks : List (List UInt8)} (h : Rise ks) {i j : Nat} (hi : i < ks.length) (hj : j < ks.length) : ks[i] < ks[j] ↔ i < j := by
  constructor
  · intro hlt
    by_cases h1 : i < j
    · exact h1
    · by_cases h2 : i = j
      · subst h2; exact absurd hlt (List.lt_irrefl _)
      · exact absurd (List.lt_trans hlt (h.lt hi (by omega))) (List.lt_irrefl _)
  · exact h.lt hj

theorem num_at {ks : List (List UInt8)} (h : Rise ks) {i : Nat} (hi : i < ks.length) {key : ByteArray} (hk : key.toList = ks[i]) : num ks key = i := by
  unfold num
  rw [List.findIdx_eq hi]
  rw [hk]
  constructor
  · rw [bytesLess_eq]; simp [List.lt_irrefl]
  · intro j hj
    rw [bytesLess_eq]
    have := h.lt hi hj
    simp [this]

theorem kw_at {ks : List (List UInt8)} {key : ByteArray} (h : kw ks key) : ∃ i, ∃ hi : i < ks.length, key.toList = ks[i] := by
  obtain ⟨i, hi, e⟩ := List.getElem_of_mem h
  exact ⟨i, hi, e.symm⟩

theorem num_nu {ks : List (List UInt8)} (h : Rise ks) : Nu ks.length (num ks) (kw ks) where
  lt x hx := by
    obtain ⟨i, hi, e⟩ := kw_at hx
    rw [num_at h hi e]; exact hi
  is x y hx hy := by
    obtain ⟨i, hi, e⟩ := kw_at hx
    obtain ⟨j, hj, f⟩ := kw_at hy
    rw [num_at h hi e, num_at h hj f, e, f, Bool.eq_iff_iff, beq_iff_eq, decide_eq_true_iff]
    constructor
    · intro he
      by_cases h1 : i < j
      · have := h.lt hj h1; rw [he] at this; exact absurd this (List.lt_irrefl _)
      · by_cases h2 : j < i
        · have := h.lt hi h2; rw [he] at this; exact absurd this (List.lt_irrefl _)
        · omega
    · intro he; subst he; rfl
  le x y hx hy := by
    obtain ⟨i, hi, e⟩ := kw_at hx
    obtain ⟨j, hj, f⟩ := kw_at hy
    rw [num_at h hi e, num_at h hj f]
    unfold Ky.lt
    rw [e, f, bytesLess_eq, Bool.eq_iff_iff, decide_eq_true_iff, decide_eq_true_iff]
    exact h.iff hi hj

/-- What the halving finds. -/
theorem search_num {ks : List (List UInt8)} (h : Rise ks) (key : ByteArray) (Sx : Nat → ByteArray) (h1 : ∀ t, ∀ ht : t < ks.length, (Sx t).toList = ks[t]) (h2 : ∀ t, ks.length ≤ t → Sx t = key) :
    bsGo (fun t => Op.bytesLess (Sx t).toList key.toList) ks.length 0 ks.length = num ks key := by
  have hle : num ks key ≤ ks.length := List.findIdx_le_length
  refine bsGo_spec _ _ (fun t ht => ?_) (fun t ht => ?_) _ _ _ (by omega) (by omega) hle
  · have htl : t < ks.length := by omega
    rw [h1 t htl]
    have := List.not_of_lt_findIdx (p := fun k => !Op.bytesLess k key.toList) ht
    simpa using this
  · by_cases htl : t < ks.length
    · rw [h1 t htl, bytesLess_eq, decide_eq_false_iff_not]
      have hn : num ks key < ks.length := by omega
      have h3 := List.findIdx_getElem (p := fun k => !Op.bytesLess k key.toList) (xs := ks) (w := hn)
      rw [bytesLess_eq] at h3
      simp only [Bool.not_eq_true', decide_eq_false_iff_not] at h3
      intro h4
      by_cases h5 : t = num ks key
      · subst h5; exact h3 h4
      · exact h3 (List.lt_trans (h.lt htl (show num ks key < t by omega)) h4)
    · rw [h2 t (by omega), bytesLess_eq]
      simp [List.lt_irrefl]

/-- Sorted keys, each once: they rise, and are the same. -/
theorem compact_facts {d : Array (List UInt8)} (hs : ∀ i j, i < j → j < d.size → d[i]! ≤ d[j]!) : ∀ m, m ≤ d.size → (∀ x ∈ compactUpTo d m, ∃ j, j < m ∧ x = d[j]!) ∧ (∀ j, j < m → d[j]! ∈ compactUpTo d m) ∧ (compactUpTo d m).Pairwise (· < ·) := by
  intro m
  induction m with
  | zero =>
    intro _
    refine ⟨fun x hx => ?_, fun j hj => absurd hj (Nat.not_lt_zero _), ?_⟩
    · simp [compactUpTo] at hx
    · simp [compactUpTo]
  | succ m ih =>
    intro hm
    obtain ⟨h1, h2, h3⟩ := ih (by omega)
    rw [compactUpTo_succ]
    cases hk : keeps d m with
    | true =>
      simp only [if_true]
      have hlt : ∀ x ∈ compactUpTo d m, x < d[m]! := by
        intro x hx
        obtain ⟨j, hj, rfl⟩ := h1 x hx
        unfold keeps at hk
        simp only [decide_eq_true_eq] at hk
        have h0 : m ≠ 0 := by omega
        have hne : d[m]! ≠ d[m - 1]! := by
          rcases hk with h | h
          · exact absurd h h0
          · exact h
        have hle : d[j]! ≤ d[m - 1]! := by
          by_cases h5 : j = m - 1
          · subst h5; exact List.le_refl _
          · exact hs j (m - 1) (by omega) (by omega)
        have hle2 := hs (m - 1) m (by omega) (by omega)
        have hlt2 : d[m - 1]! < d[m]! := by
          by_cases h6 : d[m - 1]! < d[m]!
          · exact h6
          · exact absurd (List.le_antisymm (List.not_lt.1 h6) hle2) hne
        exact List.lt_of_le_of_lt hle hlt2
      refine ⟨fun x hx => ?_, fun j hj => ?_, ?_⟩
      · rcases List.mem_append.1 hx with h | h
        · obtain ⟨j, hj, e⟩ := h1 x h
          exact ⟨j, by omega, e⟩
        · exact ⟨m, by omega, by simpa using h⟩
      · by_cases hjm : j = m
        · subst hjm; simp
        · exact List.mem_append_left _ (h2 j (by omega))
      · rw [List.pairwise_append]
        exact ⟨h3, by simp, fun x hx y hy => by rw [List.mem_singleton.1 hy]; exact hlt x hx⟩
    | false =>
      simp only [Bool.false_eq_true, if_false, List.append_nil]
      refine ⟨fun x hx => ?_, fun j hj => ?_, h3⟩
      · obtain ⟨j, hj, e⟩ := h1 x hx
        exact ⟨j, by omega, e⟩
      · by_cases hjm : j = m
        · subst hjm
          unfold keeps at hk
          simp only [decide_eq_false_iff_not, not_or, Decidable.not_not] at hk
          rw [hk.2]
          exact h2 (j - 1) (by omega)
        · exact h2 j (by omega)

/-- The keys of some texts. -/
def keysOf (ss : List (List UInt8)) : List (List UInt8) := compact (ss.mergeSort fun x y => decide (x ≤ y))

theorem keysOf_facts (ss : List (List UInt8)) : Rise (keysOf ss) ∧ ∀ x ∈ ss, x ∈ keysOf ss := by
  have hsort : (ss.mergeSort fun x y => decide (x ≤ y)).Pairwise fun x y => x ≤ y := by
    have := List.pairwise_mergeSort (le := fun (x y : List UInt8) => decide (x ≤ y)) (fun a b c h1 h2 => by
      simp only [decide_eq_true_eq] at *
      exact List.le_trans h1 h2) (fun a b => by
      simp only [Bool.or_eq_true, decide_eq_true_eq]
      exact List.le_total a b) ss
    exact this.imp fun h => by simpa using h
  have hd : ∀ i j, i < j → j < (ss.mergeSort fun x y => decide (x ≤ y)).toArray.size → (ss.mergeSort fun x y => decide (x ≤ y)).toArray[i]! ≤ (ss.mergeSort fun x y => decide (x ≤ y)).toArray[j]! := by
    intro i j hij hj
    rw [getElem!_pos _ i (by omega), getElem!_pos _ j hj]
    have hj' : j < (ss.mergeSort fun x y => decide (x ≤ y)).length := by simpa using hj
    simpa using List.pairwise_iff_getElem.1 hsort i j (by omega) hj' hij
  have h := compact_facts hd _ (Nat.le_refl _)
  refine ⟨?_, fun x hx => ?_⟩
  · unfold Rise keysOf compact
    simpa using h.2.2
  · have hx2 : x ∈ ss.mergeSort fun x y => decide (x ≤ y) := List.mem_mergeSort.2 hx
    obtain ⟨j, hj, e⟩ := List.getElem_of_mem hx2
    have := h.2.1 j (by simpa using hj)
    rw [getElem!_pos _ j (by simpa using hj)] at this
    unfold keysOf compact
    simp only [List.size_toArray, List.getElem_toArray, e] at this
    exact this

theorem keysOf_len (ss : List (List UInt8)) : (keysOf ss).length ≤ ss.length := by
  unfold keysOf
  have := compact_length_le (ss.mergeSort fun x y => decide (x ≤ y))
  rw [List.length_mergeSort] at this
  exact this
end Dr
end Go.Proofs.YtoehlgigidgfpaaGreat

namespace Go.Proofs.YtoehlgigidgfpaaGreat
open Go.RowKit Go.Shelf Go.Sort
attribute [local go_sem] Oper.semAt_some
set_option linter.unusedVariables false
set_option maxRecDepth 100000

set_option maxHeartbeats 2000000 in
theorem backE_in (l b : Nat) (S : List Nat) (L : List En) (J Jx : List (Nat × En) → World → Prop) (Jp : List PanicEntry → List (Nat × En) → World → Prop)
    (hY : ∀ pre x W, J pre W → pre ++ [x] <+: Pg.bw L → YieldAt Fence.wide 7 Tryz.prog l (encB x) W fun r W' =>
      (r = .returned (.bool true) ∧ J (pre ++ [x]) W' ∧ KpP S W W') ∨ (r = .returned (.bool false) ∧ Jx (pre ++ [x]) W') ∨ (∃ chain, r = .panicked chain ∧ Jp chain (pre ++ [x]) W'))
    (W : World) (hL : Fm W b S L) (h0 : J [] W) :
    CallsIn Fence.wide 8 Tryz.prog 200 #[.func (.yield l) #[] #[], .pointer (some ⟨b, 0, none⟩)] W fun r W' => ((∃ v, r = .returned v) ∧
      ((∃ ys, ys = Pg.bw L ∧ J ys W') ∨ (∃ pre, pre <+: Pg.bw L ∧ Jx pre W'))) ∨ ∃ chain pre, r = .panicked chain ∧ pre <+: Pg.bw L ∧ Jp chain pre W' := by
  refine callsIn_of_wp Tryz.func200 rfl trivial ?_ rfl
  simp only [Tryz.ntmps200, List.size_toArray, List.length_cons, List.length_nil, Nat.reduceAdd, Nat.reduceSub, Array.replicate_succ, Array.replicate_zero, List.push_toArray, List.append_toArray, List.nil_append, List.cons_append]
  obtain ⟨p, c, k1, r1, s1⟩ := hL.ex
  obtain ⟨len, hlen⟩ : ∃ len, L.length = len := ⟨_, rfl⟩
  have hreach := hL.reach
  have HR : Hid (∀ W', KpP S W W' → ∀ j x, L[j]? = some x → ∃ g o, p = some ⟨g, o, none⟩ ∧ W'.cell? ⟨g, o + j * 4, none⟩ = some (.string x.key) ∧ W'.cell? ⟨g, o + j * 4 + 1, none⟩ = some (.int .i64 x.s) ∧ W'.cell? ⟨g, o + j * 4 + 2, none⟩ = some (.int .i64 x.g) ∧ W'.cell? ⟨g, o + j * 4 + 3, none⟩ = some (.int .i64 x.c)) := fun W' hk j x hx => by
    have hj : j < L.length := (List.getElem?_eq_some_iff.1 hx).1
    obtain ⟨g, o, e, rfl, he, -, h⟩ := (r1.kp hk (s1 (by omega))).at hj
    rw [hx] at he
    cases he
    exact ⟨g, o, rfl, h⟩
  rw [hlen] at hreach k1
  have HL : Hid (L.length = len) := hlen
  have HY : Hid _ := hY
  have HBX : Hid (∀ W', KpP S W W' → W'.cell? ⟨b, 0, none⟩ = some (.slice p len c)) := fun W' hk => (hk.bk k1 hL.h1).cell 0
  have hbx := HBX.out W (KpP.refl _ _)
  clear hlen hY hL k1 r1 s1
  gi_wp2
  gi_loopw [3] (fun i wr => ∃ k : Nat, k ≤ len ∧ i = .int .i64 ((k : Int) - 1) ∧ J ((Pg.bw L).take (len - k)) wr ∧ KpP S W wr) (fun i _ => (intOf i + 1).toNat)
  case atStart => exact ⟨len, Nat.le_refl _, by go_num, by simpa using h0, KpP.refl _ _⟩
  case round =>
    obtain ⟨k', hk, rfl, hJs, hK⟩ := hrel
    cases k' with
    | succ k =>
      rw [show ((k + 1 : Nat) : Int) - 1 = (k : Int) by omega]
      have hkL : k < L.length := by rw [HL.out]; omega
      obtain ⟨x, hx⟩ : ∃ x, L[k]? = some x := ⟨_, List.getElem?_eq_getElem hkL⟩
      have hli : (k : Int) < (len : Int) := by omega
      have hk0 : (0 : Int) ≤ (k : Int) := by omega
      have hb0 := HBX.out wr hK
      obtain ⟨g, o, rfl, z0, z1, z2, z3⟩ := HR.out wr hK k x hx
      have hbw := Pg.bw_at hkL hx
      rw [HL.out, show len - 1 - k = len - (k + 1) by omega] at hbw
      have HT : Hid ((Pg.bw L).take (len - k) = (Pg.bw L).take (len - (k + 1)) ++ [(k, x)]) := by
        rw [Hid, show len - k = len - (k + 1) + 1 by omega]
        exact take_snoc hbw
      obtain ⟨fn, tmps, assign, body, hy, hR⟩ := HY.out ((Pg.bw L).take (len - (k + 1))) (k, x) wr hJs (by rw [← HT.out]; exact List.take_prefix _ _)
      simp only [encB, En.val] at hy
      clear hx hbw
      gi_wp2
      refine hR.mono ?_
      rintro e W4 (⟨rfl, hJ4, hk4⟩ | ⟨rfl, hJx4⟩ | ⟨chain, rfl, hJp4⟩)
      · gi_wp2
        go_roundw
        case rel => exact ⟨k, by omega, by go_num, by rw [HT.out]; exact hJ4, hK.t hk4⟩
        case measure => simp [intOf]
      · gi_wp2
        refine bodyPost_ret (results_none rfl _ _ _) rfl ?_
        exact .inl ⟨⟨_, rfl⟩, .inr ⟨_, by rw [← HT.out]; exact List.take_prefix _ _, hJx4⟩⟩
      · refine ⟨rfl, ?_⟩
        exact .inr ⟨chain, _, rfl, by rw [← HT.out]; exact List.take_prefix _ _, hJp4⟩
    | zero =>
      rw [show ((0 : Nat) : Int) - 1 = -1 by omega]
      gi_wp2
      go_end0
      refine .inl ⟨⟨_, rfl⟩, .inl ⟨_, rfl, ?_⟩⟩
      rw [List.take_of_length_le (by rw [Pg.bw_len, HL.out]; exact Nat.le_refl _)] at hJs
      exact hJs

theorem backE_stops {w : World} {b : Nat} {S : List Nat} {L : List En} (hL : Fm w b S L) :
    SeqStopsP 8 Tryz.prog 200 #[.pointer (some ⟨b, 0, none⟩)] encB (KpP S) (fun ys => ys = Pg.bw L) (fun pre => pre <+: Pg.bw L) w := fun l J Jx Jp W hW hY h0 =>
  backE_in l b S L J Jx Jp hY W (hL.kp (KpP.of_below hW hL.lt)) h0

namespace Dr
/-- The first place from j on with a key's number. -/
def fsAt (kn : List Nat) (j n : Nat) : Nat := j + (kn.drop j).findIdx fun k => k == n

theorem fsAt_step {kn : List Nat} {j n : Nat} (hj : j < kn.length) : fsAt kn j n = if kn.getD j 0 = n then j else fsAt kn (j + 1) n := by
  unfold fsAt
  rw [List.drop_eq_getElem_cons hj, List.findIdx_cons]
  have : kn.getD j 0 = kn[j] := by simp [List.getD, hj]
  rw [this]
  by_cases h : kn[j] = n
  · simp [h]
  · rw [if_neg h]
    have : (kn[j] == n) = false := by simp [h]
    rw [this]
    simp only [cond_false]
    omega

theorem fsAt_le (kn : List Nat) (j n : Nat) (hj : j ≤ kn.length) : fsAt kn j n ≤ kn.length := by
  unfold fsAt
  have := List.findIdx_le_length (p := fun k => k == n) (xs := kn.drop j)
  rw [List.length_drop] at this
  omega

theorem fsAt_key {kn : List Nat} {j n : Nat} (h : fsAt kn j n < kn.length) : kn.getD (fsAt kn j n) 0 = n := by
  have hlt : (kn.drop j).findIdx (fun k => k == n) < (kn.drop j).length := by
    unfold fsAt at h
    rw [List.length_drop]; omega
  have := List.findIdx_getElem (p := fun k => k == n) (xs := kn.drop j) (w := hlt)
  rw [List.getElem_drop] at this
  unfold fsAt at h ⊢
  simp only [List.getD, List.getElem?_eq_getElem h, Option.getD_some]
  simpa using this

theorem fsAt_min {kn : List Nat} {j n b : Nat} (hj : j ≤ b) (hb : b < fsAt kn j n) (hl : b < kn.length) : kn.getD b 0 ≠ n := by
  unfold fsAt at hb
  have hlt : b - j < (kn.drop j).findIdx (fun k => k == n) := by omega
  have := List.not_of_lt_findIdx hlt
  rw [List.getElem_drop] at this
  simp only [show j + (b - j) = b by omega] at this
  simp only [List.getD, List.getElem?_eq_getElem hl, Option.getD_some]
  simpa using this

def nxOf (kn : List Nat) : List Nat := (List.range kn.length).map fun a => fsAt kn (a + 1) (kn.getD a 0)
def fsOf (kn : List Nat) (K j : Nat) : List Nat := (List.range K).map (fsAt kn j)
/-- A row that is filled from behind. -/
def upFrom (l : List Nat) (j : Nat) : List Nat := List.replicate j 0 ++ l.drop j

theorem upFrom_len (l : List Nat) (j : Nat) (h : j ≤ l.length) : (upFrom l j).length = l.length := by simp [upFrom]; omega
theorem upFrom_step {l : List Nat} {j : Nat} (h : j < l.length) : (upFrom l (j + 1)).set j (l.getD j 0) = upFrom l j := by
  unfold upFrom
  rw [List.drop_eq_getElem_cons h, List.replicate_succ', List.append_assoc, List.set_append_right _ _ (by simp)]
  simp [List.getD, h]
theorem fsOf_step {kn : List Nat} {K j : Nat} (hj : j < kn.length) (hn : kn.getD j 0 < K) : (fsOf kn K (j + 1)).set (kn.getD j 0) j = fsOf kn K j := by
  apply List.ext_getElem?
  intro m
  unfold fsOf
  by_cases hm : m < K
  · by_cases he : kn.getD j 0 = m
    · subst he
      rw [List.getElem?_set_self (by simpa using hn), List.getElem?_map, List.getElem?_range hm, Option.map_some, fsAt_step hj, if_pos rfl]
    · rw [List.getElem?_set_ne he, List.getElem?_map, List.getElem?_map, List.getElem?_range hm, Option.map_some, Option.map_some, fsAt_step hj, if_neg he]
  · rw [List.getElem?_eq_none (by simp; omega), List.getElem?_eq_none (by simp; omega)]

theorem nxOf_at {kn : List Nat} {a : Nat} (h : a < kn.length) : (nxOf kn).getD a 0 = fsAt kn (a + 1) (kn.getD a 0) := by
  simp [nxOf, List.getD, h]
theorem fsOf_at {kn : List Nat} {K j n : Nat} (h : n < K) : (fsOf kn K j).getD n 0 = fsAt kn j n := by
  simp [fsOf, List.getD, h]

/-- The keys' numbers of a row. -/
def knOf (ks : List (List UInt8)) (row : List En) : List Nat := row.map fun e => num ks e.key
def fx0 (ks : List (List UInt8)) (row : List En) : Fx := ⟨ks.length, row.length, knOf ks row, nxOf (knOf ks row)⟩
def df0 (ks : List (List UInt8)) (row : List En) : Df := ⟨0, row, fsOf (knOf ks row) ks.length 0, List.replicate ks.length En.zero, List.replicate ks.length 0, fun _ => false⟩

theorem knOf_len (ks : List (List UInt8)) (row : List En) : (knOf ks row).length = row.length := by simp [knOf]
theorem knOf_at {ks : List (List UInt8)} {row : List En} {a : Nat} (h : a < row.length) : (knOf ks row).getD a 0 = num ks (row.getD a En.zero).key := by
  simp [knOf, List.getD, h]

theorem inv0 {ks : List (List UInt8)} {row : List En} (hr : Rise ks) (hk : ∀ e ∈ row, kw ks e.key) : Inv (fx0 ks row) (num ks) (kw ks) (df0 ks row) := by
  have hl := knOf_len ks row
  have hkr : ∀ a, a < row.length → kw ks (row.getD a En.zero).key := fun a ha => by
    simp only [List.getD, List.getElem?_eq_getElem ha, Option.getD_some]
    exact hk _ (List.getElem_mem ha)
  have hlt : ∀ a, a < row.length → (knOf ks row).getD a 0 < ks.length := fun a ha => by
    rw [knOf_at ha]
    exact (num_nu hr).lt _ (hkr a ha)
  refine ⟨⟨hl, by simp [fx0, nxOf, hl], hlt, fun a ha => ?_, fun a ha => ?_, fun a ha h1 => ?_, fun a b ha h1 h2 => ?_⟩, num_nu hr, rfl, by simp [df0, fsOf, fx0], by simp [df0, fx0], by simp [df0, fx0], Nat.zero_le _, fun n h => (by cases h), fun m n h => (by cases h), fun m a h => (by cases h), fun n hn => ?_, fun n hn h1 => ?_, fun a h1 h2 => ?_, fun a ha => ?_, fun n h => (by cases h)⟩
  · show a < (nxOf (knOf ks row)).getD a 0
    rw [nxOf_at (by rw [hl]; exact ha)]
    unfold fsAt; omega
  · show (nxOf (knOf ks row)).getD a 0 ≤ row.length
    rw [nxOf_at (by rw [hl]; exact ha), ← hl]
    exact fsAt_le _ _ _ (by rw [hl]; exact ha)
  · show (knOf ks row).getD ((nxOf (knOf ks row)).getD a 0) 0 = (knOf ks row).getD a 0
    have h3 : (nxOf (knOf ks row)).getD a 0 < row.length := h1
    rw [nxOf_at (by rw [hl]; exact ha)] at h3 ⊢
    exact fsAt_key (by rw [hl]; exact h3)
  · show (knOf ks row).getD b 0 ≠ (knOf ks row).getD a 0
    have h3 : b < (nxOf (knOf ks row)).getD a 0 := h2
    rw [nxOf_at (by rw [hl]; exact ha)] at h3
    have h4 := fsAt_le (knOf ks row) (a + 1) ((knOf ks row).getD a 0) (by rw [hl]; exact ha)
    exact fsAt_min (by omega) h3 (by omega)
  · show (fsOf (knOf ks row) ks.length 0).getD n 0 ≤ row.length
    rw [fsOf_at (show n < ks.length from hn), ← hl]
    exact fsAt_le _ _ _ (Nat.zero_le _)
  · show (knOf ks row).getD ((fsOf (knOf ks row) ks.length 0).getD n 0) 0 = n
    have h3 : (fsOf (knOf ks row) ks.length 0).getD n 0 < row.length := h1
    rw [fsOf_at (show n < ks.length from hn)] at h3 ⊢
    exact fsAt_key (by rw [hl]; exact h3)
  · show (fsOf (knOf ks row) ks.length 0).getD ((knOf ks row).getD a 0) 0 ≤ a
    rw [fsOf_at (hlt a h2)]
    by_cases hc : fsAt (knOf ks row) 0 ((knOf ks row).getD a 0) ≤ a
    · exact hc
    · have hmin := fsAt_min (kn := knOf ks row) (j := 0) (n := (knOf ks row).getD a 0) (b := a) (Nat.zero_le _) (by omega) (by rw [hl]; exact h2)
      exact absurd rfl hmin
  · exact ⟨hkr a ha, (knOf_at ha).symm⟩

theorem view0 (ks : List (List UInt8)) (row : List En) : view (fx0 ks row) (df0 ks row) = [] := by
  unfold view top
  rw [List.filterMap_eq_nil_iff]
  intro d hd
  cases hv : val (fx0 ks row) (df0 ks row) d with
  | none => rfl
  | some x =>
    rcases val_some hv with ⟨a, _, ht, _⟩ | ⟨n, _, _, hs, _⟩
    · unfold th at ht
      simp [df0] at ht
    · cases hs
end Dr
end Go.Proofs.YtoehlgigidgfpaaGreat

namespace Go.Proofs.YtoehlgigidgfpaaGreat
open Go.RowKit
set_option linter.unusedVariables false

section
variable {P : Program} {ops : Array Oper} {md : Region.Mode} {w : World} {l n : Nat}

theorem stt_of_still {o : Oper} {a : Act} {K : Act → Prop} {K' : Act → World → Prop} {Q' : Exit → Act → World → Prop} (ho : ∀ c, o.op ≠ .defer c) (h : ∀ a, K a → K' a w) (hh : o.still P a w K) : o.wpIn (Fence.wide.inRound l) n P a w K' Q' := by
  unfold Oper.wpIn
  refine ⟨fun f _ => trivial, ?_⟩
  rw [Oper.semAt_eq _ _ _ ho]
  unfold Oper.still at hh
  generalize (execOp a.eval o).run P w = r at *
  cases r with
  | ok nx w' =>
    cases nx <;> simp only [Oper.stillUpon] at hh
    case value v => obtain ⟨rfl, h1⟩ := hh; exact h _ h1
    case skip => obtain ⟨rfl, h1⟩ := hh; exact h _ h1
    case enter f args =>
      obtain ⟨rfl, v, hc, hn⟩ := hh
      refine ⟨fun h => (by cases h), ?_⟩
      refine CallsIn.inRound l ((callsIn_wide.2 hc).mono ?_)
      rintro e w'' ⟨rfl, rfl⟩
      exact h _ hn
  | halt x w' => simp only [Oper.stillUpon] at hh

theorem wpOpIn_of_stOp {i : Nat} {a : Act} {K : Act → Prop} {K' : Act → World → Prop} {Q' : Exit → Act → World → Prop} (ho : ∀ o, ops[i]? = some o → ∀ c, o.op ≠ .defer c) (h : ∀ a, K a → K' a w) (hh : stOp P ops w i K a) :
    wpOpIn (Fence.wide.inRound l) n P ops Q' i K' a w := by
  unfold stOp at hh
  unfold wpOpIn
  split
  · rename_i ho'
    simp only [ho'] at hh
    exact h _ hh
  · rename_i o ho'
    simp only [ho'] at hh
    split
    · rename_i hw
      simp only [hw, if_true] at hh
      exact stt_of_still (ho o ho') h hh
    · rename_i hw
      simp only [hw] at hh
      exact ⟨fun f _ => trivial, h _ hh⟩

theorem wpAnyIn_of_head {m g : Nat} {L : Array Bool → Act → Prop} {Q' : Exit → Act → World → Prop} (ho : ∀ (i : Nat) (o : Oper), ops[i]? = some o → ∀ c, o.op ≠ .defer c) (hL : ∀ listed a, L listed a → wpAnyIn (Fence.wide.inRound l) n P md ops Q' g listed a w) :
    ∀ (f : Nat) (listed : Array Bool) (a : Act), wpAnyL P md ops w m L f listed a → wpAnyIn (Fence.wide.inRound l) n P md ops Q' (f + g) listed a w
  | 0, listed, a, h => by rw [Nat.zero_add]; exact hL _ _ h
  | f + 1, listed, a, h => by
    rw [show f + 1 + g = (f + g) + 1 by omega]
    exact ⟨fun h0 => absurd h0 h.1, fun i hi => wpOpIn_of_stOp (ho i) (fun a' h' => wpAnyIn_of_head ho hL f _ a' h') (h.2 i hi).2⟩

theorem wpAnyIn_of_seq {F : Fence} {Q' : Exit → Act → World → Prop} : ∀ (l : List Oper) (k : Nat) (listed : Array Bool) (a : Act) (w : World), (∀ j, l[j]? = ops[k + j]?) →
    Region.seqB md ops l.length k listed = true → wpListIn F n P ops Q' l a w → wpAnyIn F n P md ops Q' l.length listed a w
  | [], _, _, _, _, _, hB, h => ⟨by simpa [Region.seqB] using hB, h⟩
  | o :: l, k, listed, a, w, hl, hB, h => by
    have h0 : ops[k]? = some o := by simpa using (hl 0).symm
    simp only [List.length_cons, Region.seqB, Bool.and_eq_true, decide_eq_true_eq] at hB
    refine ⟨fun h1 => (by rw [hB.1] at h1; cases h1), fun i hi => ?_⟩
    rw [hB.1] at hi
    have hik : i = k := by simpa using hi
    subst hik
    have hw : wpOpIn F n P ops Q' i (wpListIn F n P ops Q' l) a w := by unfold wpOpIn; simp only [h0]; exact h
    exact wpOpIn_mono (fun a' w' h' => wpAnyIn_of_seq l (i + 1) _ a' w' (fun j => by have := hl (j + 1); simpa [Nat.add_assoc, Nat.add_comm 1 j] using this) hB.2 h') hw

theorem stt_region {id : Nat} {Q : Exit → Act → World → Prop} {a : Act} {os : List Oper} (m : Nat) (hm : P.follows .mixedOrders = true) (hB : Region.lexTailB .any os.toArray m = true) (hd : noDefer os = true)
    (h : wpStill P os.toArray w.drew (fun a' => wpListIn (Fence.wide.inRound l) n P os.toArray Q (os.drop m) a' w.drew) (os.take m) a) : (Code.region id os.toArray true).wpIn (Fence.wide.inRound l) n P Q a w := by
  simp only [Region.lexTailB, Bool.and_eq_true, decide_eq_true_eq] at hB
  obtain ⟨⟨⟨⟨hsel, hn⟩, hs⟩, hc⟩, hlex⟩ := hB
  have hn' : m < os.length := by simpa using hn
  have htl : (os.take m).length = m := by simp; omega
  have hdl : (os.drop m).length = os.toArray.size - m := by simp
  have inv0 : HeadInv .any os.toArray m (Array.replicate os.toArray.size false) :=
    ⟨by simp, fun j oj _ hl => (by rw [getD_replicate_false] at hl; cases hl), fun t _ ht => getD_in (by simpa using ht) (getD_replicate_false _ _)⟩
  have H := wpAnyL_lex (md := .any) (g := os.toArray.size - m) hsel hs hc hn (os.take m) 0 _ a (fun j hj => by
    have hj' : j < m := by rw [htl] at hj; exact hj
    simp [hj']) (by simpa using htl) inv0 (by rw [htl]; exact hlex) h
  refine wpIn_region_any hm ?_
  have := wpAnyIn_of_head (l := l) (n := n) (Q' := Q) (g := os.toArray.size - m) (noDefer_out hd) (fun listed a' hL => by
    have := wpAnyIn_of_seq (F := Fence.wide.inRound l) (n := n) (md := .any) (Q' := Q) (os.drop m) m listed a' w.drew (fun j => by simp [List.getElem?_drop]) (by rw [hdl]; exact hL.1) hL.2
    rwa [hdl] at this) _ _ _ H
  rw [htl, show m + (os.toArray.size - m) = os.toArray.size by omega] at this
  exact this
end

end Go.Proofs.YtoehlgigidgfpaaGreat

namespace Go.Proofs.YtoehlgigidgfpaaGreat
set_option linter.unusedVariables false
set_option maxRecDepth 100000

namespace Pk
/-- The number at a place of a list. -/
def at' (t : List Int) (i : Nat) : Int := t.getD i 0

theorem at_set (t : List Int) (i k : Nat) (x : Int) (hi : i < t.length) : at' (t.set i x) k = if k = i then x else at' t k := by
  unfold at'
  by_cases h : k = i
  · subst h
    simp [List.getD, hi]
  · simp [List.getD, h, Ne.symm h]

theorem at_get {t : List Int} {i : Nat} (hi : i < t.length) : t[i]? = some (at' t i) := by
  simp [at', List.getD, hi]

def Ok (t : List Int) (m : Nat) : Prop := at' t m = max (at' t (2 * m)) (at' t (2 * m + 1))

/-- A tree whose lowest row has the numbers xs. -/
structure Is (t : List Int) (D : Nat) (xs : Nat → Int) : Prop where
  len : t.length = 2 * 2 ^ D
  ok : ∀ m, 1 ≤ m → m < 2 ^ D → Ok t m
  leaf : ∀ i, i < 2 ^ D → at' t (2 ^ D + i) = xs i

/-- What a node says of what lies below it. -/
theorem Is.le_iff {t : List Int} {D : Nat} {xs : Nat → Int} (h : Is t D xs) (a : Int) : ∀ k E j, E + k = D → j < 2 ^ E → (at' t (2 ^ E + j) ≤ a ↔ ∀ i, j * 2 ^ k ≤ i → i < (j + 1) * 2 ^ k → xs i ≤ a) := by
  intro k
  induction k with
  | zero =>
    intro E j hE hj
    have e : E = D := by omega
    subst e
    rw [h.leaf j hj]
    constructor
    · intro hle i h1 h2
      have : i = j := by simp at h1 h2; omega
      subst this
      exact hle
    · intro hall
      exact hall j (by simp) (by simp)
  | succ k ih =>
    intro E j hE hj
    have hp : 0 < 2 ^ E := Nat.pos_of_ne_zero (by simp)
    have hn : 2 ^ E + j < 2 ^ D := by
      have h1 : 2 ^ (E + 1) ≤ 2 ^ D := Nat.pow_le_pow_right (by decide) (by omega)
      rw [Nat.pow_succ] at h1
      omega
    have hok := h.ok (2 ^ E + j) (by omega) hn
    unfold Ok at hok
    have e1 : 2 * (2 ^ E + j) = 2 ^ (E + 1) + 2 * j := by rw [Nat.pow_succ]; omega
    have e2 : 2 * (2 ^ E + j) + 1 = 2 ^ (E + 1) + (2 * j + 1) := by rw [Nat.pow_succ]; omega
    rw [e2, e1] at hok
    have hj1 : 2 * j < 2 ^ (E + 1) := by rw [Nat.pow_succ]; omega
    have hj2 : 2 * j + 1 < 2 ^ (E + 1) := by rw [Nat.pow_succ]; omega
    have i1 := ih (E + 1) (2 * j) (by omega) hj1
    have i2 := ih (E + 1) (2 * j + 1) (by omega) hj2
    have m0 : j * 2 ^ (k + 1) = 2 * j * 2 ^ k := by rw [Nat.pow_succ, Nat.mul_comm (2 ^ k) 2, ← Nat.mul_assoc, Nat.mul_comm j 2]
    have m1 : (j + 1) * 2 ^ (k + 1) = (2 * j + 1 + 1) * 2 ^ k := by rw [Nat.pow_succ, Nat.mul_comm (2 ^ k) 2, ← Nat.mul_assoc]; congr 1; omega
    have m2 : 2 * j * 2 ^ k ≤ (2 * j + 1) * 2 ^ k := Nat.mul_le_mul_right _ (by omega)
    have m3 : (2 * j + 1) * 2 ^ k ≤ (2 * j + 1 + 1) * 2 ^ k := Nat.mul_le_mul_right _ (by omega)
    rw [m0, m1, hok]
    constructor
    · intro hle i h1 h2
      by_cases hc : i < (2 * j + 1) * 2 ^ k
      · exact i1.1 (by omega) i h1 hc
      · exact i2.1 (by omega) i (by omega) h2
    · intro hall
      have a1 := i1.2 fun i h1 h2 => hall i h1 (by omega)
      have a2 := i2.2 fun i h1 h2 => hall i (by omega) h2
      omega

/-- The first place from one on with a number above one. -/
structure Fst (xs : Nat → Int) (from' : Nat) (a : Int) (r : Nat) : Prop where
  ge : from' ≤ r
  gt : a < xs r
  le : ∀ i, from' ≤ i → i < r → xs i ≤ a

theorem Fst.one {xs : Nat → Int} {f : Nat} {a : Int} {r s : Nat} (h : Fst xs f a r) (k : Fst xs f a s) : r = s := by
  by_cases h1 : r < s
  · have := k.le r h.ge h1
    have := h.gt
    omega
  · by_cases h2 : s < r
    · have := h.le s k.ge h2
      have := k.gt
      omega
    · omega

/-- Where the search stands. -/
structure At (D : Nat) (xs : Nat → Int) (f P : Nat) (a : Int) (n E k j : Nat) : Prop where
  lev : E + k = D
  node : n = 2 ^ E + j
  lt : j < 2 ^ E
  ge : f ≤ j * 2 ^ k
  le : j * 2 ^ k ≤ P
  none : ∀ i, f ≤ i → i < j * 2 ^ k → xs i ≤ a

theorem At.start {D : Nat} {xs : Nat → Int} {f P : Nat} {a : Int} (hf : f ≤ P) (hP : P < 2 ^ D) : At D xs f P a (2 ^ D + f) D 0 f :=
  ⟨rfl, rfl, by omega, by simp, by simpa using hf, fun i h1 h2 => by simp at h2; omega⟩

theorem At.next {t : List Int} {D : Nat} {xs : Nat → Int} (h : Is t D xs) {f P : Nat} {a : Int} {n E k j : Nat} (hA : At D xs f P a n E k j) (hP : P < 2 ^ D) (hx : a < xs P) (hle : at' t n ≤ a) : At D xs f P a (n + 1) E k (j + 1) ∧ j * 2 ^ k < (j + 1) * 2 ^ k := by
  have hall := (h.le_iff a k E j hA.lev hA.lt).1 (by rw [← hA.node]; exact hle)
  have hp : 0 < 2 ^ k := Nat.pos_of_ne_zero (by simp)
  have e : (j + 1) * 2 ^ k = j * 2 ^ k + 2 ^ k := Nat.succ_mul _ _
  have hPn : (j + 1) * 2 ^ k ≤ P := by
    by_cases hc : (j + 1) * 2 ^ k ≤ P
    · exact hc
    · have := hall P hA.le (by omega)
      omega
  have hDk : 2 ^ D = 2 ^ E * 2 ^ k := by rw [← Nat.pow_add, hA.lev]
  have hj : j + 1 < 2 ^ E := by
    have : (j + 1) * 2 ^ k < 2 ^ E * 2 ^ k := by omega
    exact Nat.lt_of_mul_lt_mul_right this
  refine ⟨⟨hA.lev, by rw [hA.node]; omega, hj, by have := hA.ge; omega, hPn, fun i h1 h2 => ?_⟩, by omega⟩
  by_cases hc : i < j * 2 ^ k
  · exact hA.none i h1 hc
  · exact hall i (by omega) h2

theorem At.up {D : Nat} {xs : Nat → Int} {f P : Nat} {a : Int} {n E k j : Nat} (hA : At D xs f P a n E k j) (he : n % 2 = 0) : ∃ E' j', At D xs f P a (n / 2) E' (k + 1) j' ∧ j' * 2 ^ (k + 1) = j * 2 ^ k := by
  cases E with
  | zero =>
    have h1 := hA.lt
    have h2 := hA.node
    simp at h1 h2
    omega
  | succ E =>
    have h2 := hA.node
    have h1 := hA.lt
    rw [Nat.pow_succ] at h1 h2
    have hj : j = 2 * (j / 2) := by omega
    have m0 : j / 2 * 2 ^ (k + 1) = j * 2 ^ k := by
      rw [Nat.pow_succ, Nat.mul_comm (2 ^ k) 2, ← Nat.mul_assoc, Nat.mul_comm (j / 2) 2, ← hj]
    refine ⟨E, j / 2, ⟨by have := hA.lev; omega, by omega, by omega, by rw [m0]; exact hA.ge, by rw [m0]; exact hA.le, by rw [m0]; exact hA.none⟩, m0⟩

/-- One step down. -/
theorem At.down {t : List Int} {D : Nat} {xs : Nat → Int} (h : Is t D xs) {f P : Nat} {a : Int} {n E k j : Nat} (hA : At D xs f P a n E (k + 1) j) (hP : P < 2 ^ D) (hx : a < xs P) (hgt : a < at' t n) :
    (a < at' t (2 * n) → At D xs f P a (2 * n) (E + 1) k (2 * j)) ∧ (at' t (2 * n) ≤ a → At D xs f P a (2 * n + 1) (E + 1) k (2 * j + 1) ∧ a < at' t (2 * n + 1)) := by
  have m0 : 2 * j * 2 ^ k = j * 2 ^ (k + 1) := by rw [Nat.pow_succ, Nat.mul_comm (2 ^ k) 2, ← Nat.mul_assoc, Nat.mul_comm j 2]
  have hp : 0 < 2 ^ E := Nat.pos_of_ne_zero (by simp)
  have hlt := hA.lt
  have hn := hA.node
  have hnD : n < 2 ^ D := by
    have h1 : 2 ^ (E + 1) ≤ 2 ^ D := Nat.pow_le_pow_right (by decide) (by have := hA.lev; omega)
    rw [Nat.pow_succ] at h1
    omega
  have hok := h.ok n (by omega) hnD
  unfold Ok at hok
  have base : At D xs f P a (2 * n) (E + 1) k (2 * j) := ⟨by have := hA.lev; omega, by rw [Nat.pow_succ]; omega, by rw [Nat.pow_succ]; omega, by rw [m0]; exact hA.ge, by rw [m0]; exact hA.le, by rw [m0]; exact hA.none⟩
  refine ⟨fun _ => base, fun hle => ?_⟩
  refine ⟨(base.next h hP hx hle).1, by omega⟩

theorem At.done {D : Nat} {xs : Nat → Int} {t : List Int} (h : Is t D xs) {f P : Nat} {a : Int} {n E k j : Nat} (hA : At D xs f P a n E k j) (hn : 2 ^ D ≤ n) (hgt : a < at' t n) : k = 0 ∧ n = 2 ^ D + j ∧ Fst xs f a j ∧ j ≤ P := by
  have hk : k = 0 := by
    cases k with
    | zero => rfl
    | succ k =>
      have h1 : 2 ^ (E + 1) ≤ 2 ^ D := Nat.pow_le_pow_right (by decide) (by have := hA.lev; omega)
      rw [Nat.pow_succ] at h1
      have := hA.lt
      have := hA.node
      omega
  subst hk
  have hE : E = D := by have := hA.lev; omega
  subst hE
  have h1 := hA.ge
  have h2 := hA.le
  have h3 := hA.none
  simp only [Nat.pow_zero, Nat.mul_one] at h1 h2 h3
  refine ⟨rfl, hA.node, ⟨h1, ?_, h3⟩, h2⟩
  rw [← h.leaf j hA.lt, ← hA.node]
  exact hgt

theorem At.small {D : Nat} {xs : Nat → Int} {f P : Nat} {a : Int} {n E k j : Nat} (hA : At D xs f P a n E k j) : 1 ≤ n ∧ n < 2 * 2 ^ D := by
  have hp : 0 < 2 ^ E := Nat.pos_of_ne_zero (by simp)
  have h1 : 2 ^ E ≤ 2 ^ D := Nat.pow_le_pow_right (by decide) (by have := hA.lev; omega)
  have := hA.lt
  have := hA.node
  omega

/-- One number changed. -/
def upd (xs : Nat → Int) (i : Nat) (x : Int) : Nat → Int := fun k => if k = i then x else xs k

/-- A tree whose nodes above n are still to be reckoned. -/
structure Half (t : List Int) (D : Nat) (xs : Nat → Int) (n : Nat) : Prop where
  len : t.length = 2 * 2 ^ D
  ge : 1 ≤ n
  lt : n < 2 * 2 ^ D
  ok : ∀ m, 1 ≤ m → m < 2 ^ D → (∀ j, n / 2 ^ (j + 1) ≠ m) → Ok t m
  leaf : ∀ i, i < 2 ^ D → at' t (2 ^ D + i) = xs i

theorem Half.start {t : List Int} {D : Nat} {xs : Nat → Int} (h : Is t D xs) {i : Nat} (hi : i < 2 ^ D) (x : Int) : Half (t.set (2 ^ D + i) x) D (upd xs i x) (2 ^ D + i) := by
  have hl : 2 ^ D + i < t.length := by rw [h.len]; omega
  refine ⟨by rw [List.length_set]; exact h.len, by have : 0 < 2 ^ D := Nat.pos_of_ne_zero (by simp); omega, by omega, fun m h1 h2 hm => ?_, fun q hq => ?_⟩
  · have hne : 2 * m ≠ 2 ^ D + i ∧ 2 * m + 1 ≠ 2 ^ D + i := by
      have := hm 0
      simp only [Nat.zero_add, Nat.pow_one] at this
      omega
    unfold Ok
    rw [at_set _ _ _ _ hl, at_set _ _ _ _ hl, at_set _ _ _ _ hl, if_neg (by omega), if_neg hne.1, if_neg hne.2]
    exact h.ok m h1 h2
  · rw [at_set _ _ _ _ hl]
    unfold upd
    by_cases hc : q = i
    · subst hc; simp
    · rw [if_neg (by omega), if_neg hc]
      exact h.leaf q hq

theorem Half.step {t : List Int} {D : Nat} {xs : Nat → Int} {n : Nat} (h : Half t D xs n) (hn : 1 < n) : Half (t.set (n / 2) (max (at' t (2 * (n / 2))) (at' t (2 * (n / 2) + 1)))) D xs (n / 2) := by
  have hlt := h.lt
  have hl : n / 2 < t.length := by rw [h.len]; omega
  refine ⟨by rw [List.length_set]; exact h.len, by omega, by omega, fun m h1 h2 hm => ?_, fun q hq => ?_⟩
  · have hne : 2 * m ≠ n / 2 ∧ 2 * m + 1 ≠ n / 2 := by
      have := hm 0
      simp only [Nat.zero_add, Nat.pow_one] at this
      omega
    unfold Ok
    rw [at_set _ _ _ _ hl, at_set _ _ _ _ hl, at_set _ _ _ _ hl, if_neg hne.1, if_neg hne.2]
    by_cases hc : m = n / 2
    · rw [if_pos hc, hc]
    · rw [if_neg hc]
      refine h.ok m h1 h2 fun j => ?_
      cases j with
      | zero => simp only [Nat.zero_add, Nat.pow_one]; omega
      | succ j =>
        have := hm j
        rw [Nat.div_div_eq_div_mul] at this
        rw [Nat.pow_succ 2 (j + 1), Nat.mul_comm]
        exact this
  · rw [at_set _ _ _ _ hl, if_neg (by omega)]
    exact h.leaf q hq

theorem Half.done {t : List Int} {D : Nat} {xs : Nat → Int} (h : Half t D xs 1) : Is t D xs :=
  ⟨h.len, fun m h1 h2 => h.ok m h1 h2 fun j => by
    have : 1 / 2 ^ (j + 1) = 0 := Nat.div_eq_of_lt (Nat.one_lt_two_pow (by omega))
    omega, h.leaf⟩

theorem Is.zero (D : Nat) : Is (List.replicate (2 * 2 ^ D) 0) D fun _ => 0 := by
  have h0 : ∀ i, at' (List.replicate (2 * 2 ^ D) 0) i = 0 := by
    intro i
    unfold at'
    rw [List.getD_eq_getElem?_getD, List.getElem?_replicate]
    split <;> rfl
  refine ⟨by simp, fun m _ _ => ?_, fun i _ => h0 _⟩
  unfold Ok
  rw [h0, h0, h0]
  rfl
end Pk
end Go.Proofs.YtoehlgigidgfpaaGreat

namespace Go.Proofs.YtoehlgigidgfpaaGreat
open Go.RowKit
set_option linter.unusedVariables false
set_option maxRecDepth 100000

/-- Numbers as cells. -/
def ints (l : List Int) : List Value := l.map (Value.int .i64)

theorem ints_length (l : List Int) : (ints l).length = l.length := by simp [ints]

/-- A row of numbers in memory. -/
def Ir (w : World) (base : Nat) (v : Value) (l : List Int) : Prop := w.ownsRow base 3 1 v l.length (ints l)

theorem tn_grown {W W' : World} {row : Option Nat} (hg : W.grownBy W' row) : Tn row.toList W W' :=
  ⟨hg.os, hg.tape, hg.output, hg.size, fun k hk hn => hg.block k hk (fun e => hn (by rw [← e]; simp))⟩

theorem row_tn {S : List Nat} {w w' : World} {base size n : Nat} {e : TypeId} {v : Value} {xs : List Value} (h : w.ownsRow base e size v n xs) (ht : Tn S w w') (hn : ∀ k, v.ownBlock = some k → k ∉ S) : w'.ownsRow base e size v n xs := by
  refine ⟨h.1, ?_⟩
  rcases h.2 with hv | ⟨g, cap, cur, rfl, hb, hgg, rest⟩
  · exact .inl hv
  · exact .inr ⟨g, cap, cur, rfl, hb, (ht.block g (Array.getElem?_eq_some_iff.1 hgg).1 (hn g rfl)).trans hgg, rest⟩

theorem Ir.cell {w : World} {base g c : Nat} {l : List Int} {n : Nat} (hn : l.length = n) (h : Ir w base (.slice (some ⟨g, 0, none⟩) n c) l) (i : Nat) (hi : i < n) : w.cell? ⟨g, i, none⟩ = some (.int .i64 (Pk.at' l i)) := by
  subst hn
  have := World.ownsRow.cellAt h i (by omega)
  rw [this]
  simp [ints, Pk.at', List.getD, hi]

theorem Ir.frozen {w : World} {base g c n : Nat} {l : List Int} (hn : l.length = n) (h : Ir w base (.slice (some ⟨g, 0, none⟩) n c) l) (i : Nat) : w.frozen? ⟨g, i, none⟩ = false := by
  subst hn
  exact World.ownsRow.frozenAt h i

theorem Ir.set {w : World} {base g c n : Nat} {l : List Int} (hn : l.length = n) (h : Ir w base (.slice (some ⟨g, 0, none⟩) n c) l) (i : Nat) (x : Int) : Ir (w.setCell ⟨g, i, none⟩ (.int .i64 x)) base (.slice (some ⟨g, 0, none⟩) n c) (l.set i x) ∧ Tn [g] w (w.setCell ⟨g, i, none⟩ (.int .i64 x)) := by
  subst hn
  have := World.ownsRow.stored h i (.int .i64 x)
  refine ⟨?_, tn_grown this.2⟩
  have h1 := this.1
  unfold Ir
  rw [show ints (l.set i x) = (ints l).set i (.int .i64 x) by simp [ints, List.map_set], List.length_set]
  exact h1

theorem Ir.tn {S : List Nat} {w w' : World} {base : Nat} {v : Value} {l : List Int} (h : Ir w base v l) (ht : Tn S w w') (hn : ∀ k, v.ownBlock = some k → k ∉ S) : Ir w' base v l := row_tn h ht hn

theorem half_any (p : Option Addr) (n H c : Nat) (w : World) (hn : n = 2 * H) (hb : n ≤ 35184372088832) :
    Calls Tryz.prog 172 #[.slice p n c] w fun e w' => e = .returned (.int .i64 (H : Int)) ∧ w' = w := by
  have hh : (n : Int).tdiv 2 = (H : Int) := by
    rw [hn]
    have : ((2 * H : Nat) : Int) = (H : Int) * 2 := by omega
    rw [this]
    exact Int.mul_tdiv_cancel _ (by decide)
  have hHb : H ≤ 17592186044416 := by omega
  clear hn
  go_enter Tryz.func172, Tryz.ntmps172
  go_wp2
  go_ret
  exact ⟨rfl, rfl⟩

theorem half_div (n : Nat) : (n : Int).tdiv 2 = ((n / 2 : Nat) : Int) := by rfl

set_option maxHeartbeats 2000000 in
theorem pset_any {w : World} {base g c n : Nat} {t : List Int} {D : Nat} {xs : Nat → Int} (h : Ir w base (.slice (some ⟨g, 0, none⟩) n c) t) (hn : t.length = n) (hI : Pk.Is t D xs) (hb : n ≤ 35184372088832) (i : Nat) (hi : i < 2 ^ D) (x : Int) :
    Calls Tryz.prog 153 #[.slice (some ⟨g, 0, none⟩) n c, .int .i64 (i : Int), .int .i64 x] w fun e w' => e = .returned (.tuple #[]) ∧ ∃ t', Ir w' base (.slice (some ⟨g, 0, none⟩) n c) t' ∧ t'.length = n ∧ Pk.Is t' D (Pk.upd xs i x) ∧ Tn [g] w w' := by
  have hl := hI.len
  have HX := Pk.Half.start hI hi x
  obtain ⟨H, hH⟩ : ∃ H, 2 ^ D = H := ⟨_, rfl⟩
  rw [hH] at hl HX hi
  have hn2 : n = 2 * H := by omega
  have f0 : w.frozen? ⟨g, H + i, none⟩ = false := h.frozen hn _
  have c0 := h.cell hn (H + i) (by omega)
  have hset := h.set hn (H + i) x
  obtain ⟨w1, hw1⟩ : ∃ w1, w.setCell ⟨g, H + i, none⟩ (.int .i64 x) = w1 := ⟨_, rfl⟩
  rw [hw1] at hset
  have HS : Hid (∃ t', Ir w1 base (.slice (some ⟨g, 0, none⟩) n c) t' ∧ t'.length = n ∧ Pk.Half t' D (Pk.upd xs i x) (H + i) ∧ Tn [g] w w1) := ⟨_, hset.1, by simpa using hn, HX, hset.2⟩
  have HN : Hid (n = 2 * H) := hn2
  have HD : Hid (2 ^ D = H) := hH
  have hhn : ((H : Int) + (i : Int)) < (n : Int) := by omega
  have hh0 : (0 : Int) ≤ ((H : Int) + (i : Int)) := by omega
  have hto : ((H : Int) + (i : Int)).toNat = H + i := by omega
  have hHb : H ≤ 17592186044416 := by omega
  have hib : i ≤ 17592186044416 := by omega
  clear hset HX hI hn h hH hl hn2
  generalize Pk.at' t (H + i) = y0 at *
  go_enter Tryz.func153, Tryz.ntmps153
  go_wp2_with fail
  refine (half_any _ n H c w HN.out hb).mono ?_
  rintro e w' ⟨rfl, rfl⟩
  go_wp2_with fail
  go_loopw [6] (fun jv wr => ∃ k : Nat, jv = .int .i64 (k : Int) ∧ Hid (∃ t', Ir wr base (.slice (some ⟨g, 0, none⟩) n c) t' ∧ t'.length = n ∧ Pk.Half t' D (Pk.upd xs i x) k ∧ Tn [g] w' wr)) (fun jv _ => (intOf jv).toNat)
  case atStart => exact ⟨H + i, by go_num, HS⟩
  case round =>
    obtain ⟨k, rfl, HW⟩ := hrel
    clear HS hw1 c0 f0
    obtain ⟨t', h1, hl1, hX, ht⟩ := HW.out
    have hk1 := hX.ge
    have hk2 := hX.lt
    rw [HD.out, ← HN.out] at hk2
    by_cases h0 : k = 1
    · subst h0
      have HE : Hid (Pk.Is t' D (Pk.upd xs i x)) := hX.done
      have HG : Hid (Ir wr base (.slice (some ⟨g, 0, none⟩) n c) t' ∧ t'.length = n ∧ Tn [g] w' wr) := ⟨h1, hl1, ht⟩
      clear h1 hl1 ht hX HW
      go_wp2
      go_end0
      exact ⟨rfl, t', HG.out.1, HG.out.2.1, HE.out, HG.out.2.2⟩
    · have hk3 : (1 : Int) < (k : Int) := by omega
      have hs := hX.step (by omega)
      obtain ⟨p, hp⟩ : ∃ p : Nat, k / 2 = p := ⟨_, rfl⟩
      have hdiv : (k : Int).tdiv 2 = (p : Int) := by rw [half_div, hp]
      have hpk : p < k := by omega
      have hp1 : 1 ≤ p := by omega
      have hp2 : 2 * p + 1 < n := by have := HN.out; omega
      rw [hp] at hs
      have c1 := h1.cell hl1 (2 * p) (by omega)
      have c2 := h1.cell hl1 (2 * p + 1) (by omega)
      have c3 := h1.cell hl1 p (by omega)
      have f3 : wr.frozen? ⟨g, p, none⟩ = false := h1.frozen hl1 p
      have h2 := h1.set hl1 p (max (Pk.at' t' (2 * p)) (Pk.at' t' (2 * p + 1)))
      obtain ⟨a, ha⟩ : ∃ a, Pk.at' t' (2 * p) = a := ⟨_, rfl⟩
      obtain ⟨b, hb'⟩ : ∃ b, Pk.at' t' (2 * p + 1) = b := ⟨_, rfl⟩
      obtain ⟨m, hm⟩ : ∃ m, max a b = m := ⟨_, rfl⟩
      rw [ha, hb', hm] at hs h2
      rw [ha] at c1
      rw [hb'] at c2
      obtain ⟨w2, hw2⟩ : ∃ w2, wr.setCell ⟨g, p, none⟩ (.int .i64 m) = w2 := ⟨_, rfl⟩
      rw [hw2] at h2
      have HS2 : Hid (∃ t', Ir w2.drew base (.slice (some ⟨g, 0, none⟩) n c) t' ∧ t'.length = n ∧ Pk.Half t' D (Pk.upd xs i x) p ∧ Tn [g] w' w2.drew) := ⟨_, World.ownsRow.drew h2.1, by simpa using hl1, hs, (ht.trans h2.2 (fun x hx => .inl hx)).drew⟩
      have hpn : (p : Int) < (n : Int) := by omega
      have hp0 : (0 : Int) ≤ (p : Int) := by omega
      have hq0 : (0 : Int) ≤ 2 * (p : Int) := by omega
      have hqn : 2 * (p : Int) < (n : Int) := by omega
      have hr0 : (0 : Int) ≤ 2 * (p : Int) + 1 := by omega
      have hrn : 2 * (p : Int) + 1 < (n : Int) := by omega
      have t1 : (2 * (p : Int)).toNat = 2 * p := by omega
      have t2 : (2 * (p : Int) + 1).toNat = 2 * p + 1 := by omega
      clear h1 h2 hl1 ht hX HW hs ha hb' hp
      generalize Pk.at' t' p = y at *
      have hmx : (if b > a then b else a) = m := by rw [← hm]; split <;> omega
      have hmy : max a b = m := by rw [← hmx]; split <;> omega
      clear hm
      go_wp2_with fail
      go_region
      go_wp2
      exact ⟨⟨p, rfl, HS2⟩, by simp [intOf]; omega⟩

theorem pat_any {w : World} {base g c n : Nat} {t : List Int} {D : Nat} {xs : Nat → Int} (h : Ir w base (.slice (some ⟨g, 0, none⟩) n c) t) (hn : t.length = n) (hI : Pk.Is t D xs) (hb : n ≤ 35184372088832) (i : Nat) (hi : i < 2 ^ D) :
    Calls Tryz.prog 155 #[.slice (some ⟨g, 0, none⟩) n c, .int .i64 (i : Int)] w fun e w' => e = .returned (.int .i64 (xs i)) ∧ w' = w := by
  have hl := hI.len
  have hx := hI.leaf i hi
  obtain ⟨H, hH⟩ : ∃ H, 2 ^ D = H := ⟨_, rfl⟩
  rw [hH] at hl hx hi
  have c0 := h.cell hn (H + i) (by omega)
  rw [hx] at c0
  have HN : Hid (n = 2 * H) := by rw [Hid]; omega
  have hhn : ((H : Int) + (i : Int)) < (n : Int) := by omega
  have hh0 : (0 : Int) ≤ ((H : Int) + (i : Int)) := by omega
  have hto : ((H : Int) + (i : Int)).toNat = H + i := by omega
  have hHb : H ≤ 17592186044416 := by omega
  have hib : i ≤ 17592186044416 := by omega
  generalize xs i = y at *
  clear h hI hx hn hl hH
  go_enter Tryz.func155, Tryz.ntmps155
  go_wp2_with fail
  refine (half_any _ n H c w HN.out hb).mono ?_
  rintro e w' ⟨rfl, rfl⟩
  go_wp2
  go_ret
  exact ⟨rfl, rfl⟩

set_option maxHeartbeats 2000000 in
theorem pfirst_any {w : World} {base g c n : Nat} {t : List Int} {D : Nat} {xs : Nat → Int} (h : Ir w base (.slice (some ⟨g, 0, none⟩) n c) t) (hn : t.length = n) (hI : Pk.Is t D xs) (hb : n ≤ 35184372088832) (f P : Nat) (a : Int) (hf : f ≤ P) (hP : P < 2 ^ D) (hx : a < xs P) :
    Calls Tryz.prog 158 #[.slice (some ⟨g, 0, none⟩) n c, .int .i64 (f : Int), .int .i64 a] w fun e w' => (∃ r : Nat, e = .returned (.int .i64 (r : Int)) ∧ Pk.Fst xs f a r ∧ r ≤ P) ∧ w' = w := by
  have hl := hI.len
  have HA : Hid (∃ E k j, Pk.At D xs f P a (2 ^ D + f) E k j ∧ P - j * 2 ^ k ≤ P) := ⟨_, _, _, Pk.At.start hf hP, by omega⟩
  obtain ⟨H, hH⟩ : ∃ H, 2 ^ D = H := ⟨_, rfl⟩
  rw [hH] at hl HA hP
  have HC : Hid (∀ m, m < n → w.cell? ⟨g, m, none⟩ = some (.int .i64 (Pk.at' t m))) := fun m hm => h.cell hn m hm
  have HN : Hid (n = 2 * H) := by rw [Hid]; omega
  have HD : Hid (2 ^ D = H) := hH
  have HI : Hid (Pk.Is t D xs) := hI
  have HP : Hid (P < 2 ^ D) := by rw [Hid, hH]; exact hP
  have HX : Hid (a < xs P) := hx
  have hfb : f ≤ 17592186044416 := by omega
  have hHb : H ≤ 17592186044416 := by omega
  clear h hI hn hl hH hx
  go_enter Tryz.func158, Tryz.ntmps158
  go_wp2_with fail
  refine (half_any _ n H c w HN.out hb).mono ?_
  rintro e w' ⟨rfl, rfl⟩
  go_wp2_with fail
  go_loopg [7] P (fun gh nv wr => ∃ m : Nat, nv = .int .i64 (m : Int) ∧ wr = w' ∧ Hid (∃ E k j, Pk.At D xs f P a m E k j ∧ P - j * 2 ^ k ≤ gh))
  case atStart => exact ⟨H + f, by go_num, rfl, HA⟩
  case round =>
    obtain ⟨m, rfl, rfl, HW⟩ := hrel
    obtain ⟨E, k, j, hA, hg⟩ := HW.out
    have hm1 := hA.small
    rw [HD.out, ← HN.out] at hm1
    obtain ⟨hm1, hm2⟩ := hm1
    have c0 := HC.out m hm2
    have hmn : (m : Int) < (n : Int) := by omega
    have hm0 : (0 : Int) ≤ (m : Int) := by omega
    by_cases hle : Pk.at' t m ≤ a
    · have hnx := hA.next HI.out HP.out HX.out hle
      have hpos : j * 2 ^ k < P := by
        have := hnx.1.le
        omega
      have HB : Hid (∃ E k j, Pk.At D xs f P a (m + 1) E k j ∧ P - j * 2 ^ k < gk) := ⟨E, k, j + 1, hnx.1, by have := hnx.2; omega⟩
      generalize Pk.at' t m = y at *
      clear hA hnx hpos HW
      go_wp2_with fail
      go_loopw [7] (fun nv wx => ∃ q : Nat, nv = .int .i64 (q : Int) ∧ wx = wr ∧ Hid (∃ E k j, Pk.At D xs f P a q E k j ∧ P - j * 2 ^ k < gk)) (fun nv _ => (intOf nv).toNat)
      case atStart => exact ⟨m + 1, by go_num, rfl, HB⟩
      case round =>
        obtain ⟨q, rfl, rfl, HV⟩ := hrel
        obtain ⟨E, k, j, hA, hg2⟩ := HV.out
        have hq1 := hA.small
        rw [HD.out, ← HN.out] at hq1
        obtain ⟨hq1, hq2⟩ := hq1
        by_cases he : q % 2 = 0
        · have hr : (q : Int).tmod 2 = 0 := by
            have : (q : Int).tmod 2 = ((q % 2 : Nat) : Int) := rfl
            rw [this, he]; rfl
          obtain ⟨E', j', hA', e'⟩ := hA.up he
          obtain ⟨p, hp⟩ : ∃ p : Nat, q / 2 = p := ⟨_, rfl⟩
          have hdiv : (q : Int).tdiv 2 = (p : Int) := by rw [half_div, hp]
          have hpq : p < q := by omega
          have HV2 : Hid (∃ E k j, Pk.At D xs f P a p E k j ∧ P - j * 2 ^ k < gk) := ⟨_, _, _, by rw [← hp]; exact hA', by rw [e']; exact hg2⟩
          clear hA hA' hp HV
          go_wp2
          exact ⟨⟨p, rfl, trivial, HV2⟩, by simp [intOf]; omega⟩
        · have hr : (q : Int).tmod 2 = 1 := by
            have : (q : Int).tmod 2 = ((q % 2 : Nat) : Int) := rfl
            rw [this, show q % 2 = 1 by omega]; rfl
          clear hA
          go_wp2
          go_roundg (gk - 1)
          case rel => exact ⟨q, rfl, rfl, by obtain ⟨E, k, j, h1, h2⟩ := HV.out; exact ⟨E, k, j, h1, by omega⟩⟩
          case measure => omega
    · have HB : Hid (∃ E k j, Pk.At D xs f P a m E k j ∧ a < Pk.at' t m) := ⟨E, k, j, hA, by omega⟩
      have hlt : ¬ Pk.at' t m ≤ a := hle
      obtain ⟨y, hy⟩ : ∃ y, Pk.at' t m = y := ⟨_, rfl⟩
      rw [hy] at c0 hlt
      clear hA HW hy hle
      go_wp2_with fail
      go_loopw [7] (fun nv wx => ∃ q : Nat, nv = .int .i64 (q : Int) ∧ wx = wr ∧ Hid (∃ E k j, Pk.At D xs f P a q E k j ∧ a < Pk.at' t q)) (fun nv _ => n - (intOf nv).toNat)
      case atStart => exact ⟨m, rfl, rfl, by rw [Hid]; exact HB.out⟩
      case round =>
        obtain ⟨q, rfl, rfl, HV⟩ := hrel
        obtain ⟨E, k, j, hA, hg2⟩ := HV.out
        have hq1 := hA.small
        rw [HD.out, ← HN.out] at hq1
        obtain ⟨hq1, hq2⟩ := hq1
        clear c0
        go_wp2_with fail
        refine (half_any _ n H c wr HN.out hb).mono ?_
        rintro e w' ⟨rfl, rfl⟩
        by_cases he : q < H
        · have hqH : (q : Int) < (H : Int) := by omega
          have hn2 := HN.out
          have c1 := HC.out (2 * q) (by omega)
          have hk : ∃ k', k = k' + 1 := by
            cases k with
            | zero =>
              have h1 := hA.node
              have h2 := hA.lev
              simp only [Nat.add_zero] at h2
              rw [h2, HD.out] at h1
              omega
            | succ k => exact ⟨k, rfl⟩
          obtain ⟨k, rfl⟩ := hk
          obtain ⟨d1, d2⟩ := hA.down HI.out HP.out HX.out hg2
          have hq0 : (0 : Int) ≤ (q : Int) * 2 := by omega
          have hqn : (q : Int) * 2 < (n : Int) := by omega
          have t1 : ((q : Int) * 2).toNat = 2 * q := by omega
          by_cases hc : Pk.at' t (2 * q) ≤ a
          · have HV2 : Hid (∃ E k j, Pk.At D xs f P a (2 * q + 1) E k j ∧ a < Pk.at' t (2 * q + 1)) := ⟨_, _, _, d2 hc⟩
            generalize Pk.at' t (2 * q) = z at *
            clear hA d1 d2 HV hg2 hn2
            go_wp2
            exact ⟨⟨2 * q + 1, by go_num, trivial, HV2⟩, by simp [intOf]; omega⟩
          · have HV2 : Hid (∃ E k j, Pk.At D xs f P a (2 * q) E k j ∧ a < Pk.at' t (2 * q)) := ⟨_, _, _, d1 (by omega), by omega⟩
            obtain ⟨z, hz⟩ : ∃ z, Pk.at' t (2 * q) = z := ⟨_, rfl⟩
            rw [hz] at hc c1
            clear hA d1 d2 HV hg2 hn2 hz
            go_wp2
            exact ⟨⟨2 * q, by go_num, trivial, HV2⟩, by simp [intOf]; omega⟩
        · have hqH : ¬ (q : Int) < (H : Int) := by omega
          obtain ⟨rfl, hqe, hF, hjP⟩ := hA.done HI.out (by rw [HD.out]; omega) hg2
          rw [HD.out] at hqe
          have HF : Hid (Pk.Fst xs f a j ∧ j ≤ P) := ⟨hF, hjP⟩
          have hsub : (q : Int) - (H : Int) = (j : Int) := by omega
          have hjb : j ≤ 17592186044416 := by omega
          clear hA hF HV hg2
          go_wp2_with fail
          refine (half_any _ n H c w' HN.out hb).mono ?_
          rintro e w2 ⟨rfl, rfl⟩
          go_wp2
          go_ret
          exact ⟨⟨j, ret_int (by omega), HF.out.1, HF.out.2⟩, rfl⟩
end Go.Proofs.YtoehlgigidgfpaaGreat

namespace Go.Proofs.YtoehlgigidgfpaaGreat
open Go.RowKit
set_option linter.unusedVariables false
set_option maxRecDepth 100000

theorem intinfoD : (Tryz.prog.info? 3).map (fun i => (i.zero, i.size, i.bytes)) = some (some (.int .i64 0), 1, 8) := by kernel_rfl

theorem made_ints (n : Nat) : (madeCells (Value.int .i64 0).cells (n * 1)).toList = ints (List.replicate n 0) := by
  rw [Nat.mul_one]
  have := toList_madeCells_one (Value.int .i64 0) n
  rw [show (Value.int .i64 0).cells = #[Value.int .i64 0] from rfl, this]
  simp [ints]

theorem make_ints (t : TypeId) (ht : Tryz.prog.underlying t = some (.slice 3)) (n : Nat) (hb : n ≤ 35184372088832) (w : World) :
    ∃ w1, (Instr.makeSlice t (.int .i64 (n : Int)) (.int .i64 (n : Int))).run Tryz.prog w = .ok (.slice (some ⟨w.heap.size, 0, none⟩) n n) w1 ∧ Ir w1 w.heap.size (.slice (some ⟨w.heap.size, 0, none⟩) n n) (List.replicate n 0) ∧ Below w.heap.size w w1 := by
  obtain ⟨i0, hi, hz0, hz1, hz2⟩ := info_parts intinfoD
  obtain ⟨w1, h1, h2, h3⟩ := run_make_full (P := Tryz.prog) w w.heap.size t 3 i0 (.int .i64 0) 1 ht hi hz0 hz1 .i64 .i64 n (by rw [hz2]; omega) (by unfold maxLen; omega) (Nat.le_refl _)
  refine ⟨w1, h1, ?_, ⟨h3.os, h3.tape, h3.output, h3.size, fun k hk => h3.block k hk (by simp)⟩⟩
  unfold Ir
  rw [List.length_replicate, ← made_ints]
  exact h2

set_option maxHeartbeats 2000000 in
theorem newPeaks_any (P : Nat) (hP : P ≤ 8796093022207) (w : World) :
    Calls Tryz.prog 152 #[.int .i64 (P : Int)] w fun e w' => ∃ n t D, e = .returned (.slice (some ⟨w.heap.size, 0, none⟩) n n) ∧ Ir w' w.heap.size (.slice (some ⟨w.heap.size, 0, none⟩) n n) t ∧ t.length = n ∧ Pk.Is t D (Pk.upd (fun _ => 0) P 9223372036854775807) ∧ P < 2 ^ D ∧ n ≤ 35184372088832 ∧ Below w.heap.size w w' := by
  go_enter Tryz.func152, Tryz.ntmps152
  go_wp2_with fail
  go_loopw [3] (fun nv wx => ∃ q : Nat, nv = .int .i64 (q : Int) ∧ wx = w ∧ Hid (∃ D, q = 2 ^ D) ∧ 1 ≤ q ∧ q ≤ 2 * P + 1) (fun nv _ => 2 * P + 2 - (intOf nv).toNat)
  case atStart => exact ⟨1, rfl, rfl, ⟨0, rfl⟩, by omega, by omega⟩
  case round =>
    obtain ⟨q, rfl, rfl, HQ, h1, h2⟩ := hrel
    by_cases hle : q ≤ P
    · have hli : (q : Int) ≤ (P : Int) := by omega
      have HQ2 : Hid (∃ D, 2 * q = 2 ^ D) := by
        obtain ⟨D, hD⟩ := HQ.out
        exact ⟨D + 1, by rw [Nat.pow_succ, hD]; omega⟩
      go_wp2
      exact ⟨⟨2 * q, by go_num, trivial, HQ2, by omega, by omega⟩, by simp [intOf]; omega⟩
    · have hli : ¬ (q : Int) ≤ (P : Int) := by omega
      obtain ⟨n, hn⟩ : ∃ n : Nat, 2 * q = n := ⟨_, rfl⟩
      have hqn : 2 * (q : Int) = (n : Int) := by omega
      have hnb : n ≤ 35184372088832 := by omega
      obtain ⟨w1, hmk, hI, hB⟩ := make_ints 212 Tryz.underlying212 n hnb wr
      obtain ⟨D, hD⟩ := HQ.out
      have HI : Hid (Ir w1 wr.heap.size (.slice (some ⟨wr.heap.size, 0, none⟩) n n) (List.replicate n 0) ∧ Pk.Is (List.replicate n 0) D (fun _ => 0) ∧ P < 2 ^ D ∧ Below wr.heap.size wr w1) := ⟨hI, by rw [← hn, hD]; exact Pk.Is.zero D, by rw [← hD]; omega, hB⟩
      clear hI hB hD HQ
      go_wp2_with fail
      refine (pset_any HI.out.1 (by simp) HI.out.2.1 hnb P HI.out.2.2.1 9223372036854775807).mono ?_
      rintro e w2 ⟨rfl, t', h1', h2', h3', h4'⟩
      have HE : Hid (Ir w2 wr.heap.size (.slice (some ⟨wr.heap.size, 0, none⟩) n n) t' ∧ t'.length = n ∧ Pk.Is t' D (Pk.upd (fun _ => 0) P 9223372036854775807) ∧ Below wr.heap.size wr w2) := ⟨h1', h2', h3', HI.out.2.2.2.trans (h4'.below HI.out.2.2.2.size (by simp))⟩
      clear h1' h2' h3' h4'
      go_wp2
      go_ret
      exact ⟨n, t', D, rfl, HE.out.1, HE.out.2.1, HE.out.2.2.1, HI.out.2.2.1, hnb, HE.out.2.2.2⟩
end Go.Proofs.YtoehlgigidgfpaaGreat

namespace Go.Proofs.YtoehlgigidgfpaaGreat
open Go.RowKit
set_option linter.unusedVariables false
set_option maxRecDepth 100000

/-- A row beside others. -/
structure Rs where
  t : TypeId
  sz : Nat
  v : Value
  n : Nat
  xs : List Value

/-- A block and rows, apart from each other. -/
structure Cl (w : World) (base B : Nat) (T : TypeId) (vals : Array Value) (rows : List Rs) : Prop where
  blk : Bk w B T vals
  ge : base ≤ B
  row : ∀ (i : Nat) r, rows[i]? = some r → w.ownsRow base r.t r.sz r.v r.n r.xs
  ne : ∀ (i : Nat) r, rows[i]? = some r → r.v.ownBlock ≠ some B
  apart : ∀ (i j : Nat) r q k, rows[i]? = some r → rows[j]? = some q → r.v.ownBlock = some k → q.v.ownBlock = some k → i = j

theorem Cl.turn {w w' : World} {base B : Nat} {T : TypeId} {vals : Array Value} {rows : List Rs} (h : Cl w base B T vals rows) {i : Nat} {r : Rs} {g : Nat} {xs' : List Value} (hi : rows[i]? = some r) (hg : r.v.ownBlock = some g) (ht : Tn [g] w w') (ho : w'.ownsRow base r.t r.sz r.v r.n xs') : Cl w' base B T vals (rows.set i { r with xs := xs' }) := by
  have hil : i < rows.length := (List.getElem?_eq_some_iff.1 hi).1
  have key : ∀ (j : Nat) q, (rows.set i { r with xs := xs' })[j]? = some q → ∃ q0, rows[j]? = some q0 ∧ q.v = q0.v ∧ ((j ≠ i ∧ q = q0) ∨ (j = i ∧ q = { r with xs := xs' })) := by
    intro j q hq
    by_cases hj : j = i
    · subst hj
      rw [List.getElem?_set_self hil] at hq
      cases hq
      exact ⟨r, hi, rfl, .inr ⟨rfl, rfl⟩⟩
    · rw [List.getElem?_set_ne (Ne.symm hj)] at hq
      exact ⟨q, hq, rfl, .inl ⟨hj, rfl⟩⟩
  refine ⟨h.blk.tn ht ?_, h.ge, fun j q hq => ?_, fun j q hq => ?_, fun j k q p x hq hp h1 h2 => ?_⟩
  · intro hm
    simp only [List.mem_singleton] at hm
    subst hm
    exact h.ne i r hi hg
  · obtain ⟨q0, h0, hv, hc⟩ := key j q hq
    rcases hc with ⟨hj, rfl⟩ | ⟨rfl, rfl⟩
    · refine row_tn (h.row j q h0) ht fun k hk hm => ?_
      simp only [List.mem_singleton] at hm
      subst hm
      exact hj (h.apart j i q r k h0 hi hk hg)
    · exact ho
  · obtain ⟨q0, h0, hv, hc⟩ := key j q hq
    rw [hv]
    exact h.ne j q0 h0
  · obtain ⟨q0, h0, hv, _⟩ := key j q hq
    obtain ⟨p0, h3, hv2, _⟩ := key k p hp
    exact h.apart j k q0 p0 x h0 h3 (by rw [← hv]; exact h1) (by rw [← hv2]; exact h2)

theorem Cl.still {w w' : World} {base B : Nat} {T : TypeId} {vals : Array Value} {rows : List Rs} (h : Cl w base B T vals rows) (ht : Tn [] w w') : Cl w' base B T vals rows :=
  ⟨h.blk.tn ht (by simp), h.ge, fun i r hi => row_tn (h.row i r hi) ht (by simp), h.ne, h.apart⟩

theorem Cl.put {w : World} {base B : Nat} {T : TypeId} {vals : Array Value} {rows : List Rs} (h : Cl w base B T vals rows) (j : Nat) (u : Value) : Cl (w.setCell ⟨B, j, none⟩ u) base B T (vals.setIfInBounds j u) rows ∧ Tn [B] w (w.setCell ⟨B, j, none⟩ u) := by
  have ht : Tn [B] w (w.setCell ⟨B, j, none⟩ u) := (Tn.refl _ w).setCell (.inl (by simp)) u
  refine ⟨⟨h.blk.set j u, h.ge, fun i r hi => row_tn (h.row i r hi) ht fun k hk hm => ?_, h.ne, h.apart⟩, ht⟩
  simp only [List.mem_singleton] at hm
  subst hm
  exact h.ne i r hi hk

abbrev sl (g n c : Nat) : Value := .slice (some ⟨g, 0, none⟩) n c

/-- Where the rows of a draft lie. -/
structure Dv where
  vK : Value
  vR : Value
  gk : Nat
  ck : Nat
  gn : Nat
  cn : Nat
  gf : Nat
  cf : Nat
  gt : Nat
  ct : Nat
  ga : Nat
  ca : Nat
  gg : Nat
  cg : Nat
  gs : Nat
  cs : Nat

/-- The blocks of a draft that its steps may turn. -/
def Dv.bs (V : Dv) (B : Nat) : List Nat := B :: V.gf :: V.gt :: V.ga :: V.gg :: V.gs :: V.vR.ownBlock.toList
/-- Nothing but a draft's own blocks, and new ones, has turned. -/
def Bw (V : Dv) (B : Nat) (w w' : World) : Prop := Tn (V.bs B) w w'
theorem Bw.of {V : Dv} {B : Nat} {w w' : World} {S : List Nat} (h : Tn S w w') (hs : ∀ x ∈ S, x ∈ V.bs B) : Bw V B w w' := h.mono hs
theorem Bw.refl (V : Dv) (B : Nat) (w : World) : Bw V B w w := Tn.refl _ w
theorem Bw.trans {V : Dv} {B : Nat} {a b c : World} (h : Bw V B a b) (k : Bw V B b c) : Bw V B a c := Tn.trans h k (fun x hx => .inl hx)

/-- Numbers as a row has them. -/
def ofs (l : List Nat) : List Int := l.map Int.ofNat
theorem ofs_at (l : List Nat) (i : Nat) : Pk.at' (ofs l) i = (l.getD i 0 : Nat) := by
  unfold Pk.at' ofs
  rw [List.getD_eq_getElem?_getD, List.getD_eq_getElem?_getD, List.getElem?_map]
  cases l[i]? <;> rfl
theorem ofs_set (l : List Nat) (i x : Nat) : ofs (l.set i x) = (ofs l).set i (x : Int) := by simp [ofs, List.map_set]
theorem ofs_length (l : List Nat) : (ofs l).length = l.length := by simp [ofs]

open Dr

/-- The numbers of the two trees. -/
def xT (F : Fx) (s : Df) (a : Nat) : Int := if a = F.R then 9223372036854775807 else if th F s a then (F.k a : Int) + 1 else 0
def xS (F : Fx) (s : Df) (n : Nat) : Int := if n = F.K then 9223372036854775807 else if s.st n then 1 else 0

def drVals (F : Fx) (s : Df) (V : Dv) (n1 n2 : Nat) : Array Value := #[V.vK, V.vR, .int .i64 (s.came : Int), sl V.gk F.R V.ck, sl V.gn F.R V.cn, sl V.gf F.K V.cf, sl V.gt n1 V.ct, sl V.ga F.K V.ca, sl V.gg F.K V.cg, sl V.gs n2 V.cs]
def drRows (ks : List (List UInt8)) (F : Fx) (s : Df) (V : Dv) (t1 t2 : List Int) (n1 n2 : Nat) : List Rs :=
  [⟨9, 1, V.vK, F.K, ks.map encStr⟩, ⟨33, 4, V.vR, F.R, flatE s.row⟩, ⟨3, 1, sl V.gk F.R V.ck, F.R, ints (ofs F.kn)⟩, ⟨3, 1, sl V.gn F.R V.cn, F.R, ints (ofs F.nx)⟩, ⟨3, 1, sl V.gf F.K V.cf, F.K, ints (ofs s.fs)⟩, ⟨3, 1, sl V.gt n1 V.ct, n1, ints t1⟩, ⟨33, 4, sl V.ga F.K V.ca, F.K, flatE s.al⟩, ⟨3, 1, sl V.gg F.K V.cg, F.K, ints (ofs s.gp)⟩, ⟨3, 1, sl V.gs n2 V.cs, n2, ints t2⟩]

/-- A draft in memory. -/
structure Drc (w : World) (base B : Nat) (ks : List (List UInt8)) (F : Fx) (s : Df) (V : Dv) (t1 t2 : List Int) (n1 n2 D1 D2 : Nat) : Prop where
  cl : Cl w base B 214 (drVals F s V n1 n2) (drRows ks F s V t1 t2 n1 n2)
  inv : Inv F (num ks) (kw ks) s
  rise : Rise ks
  kl : ks.length = F.K
  l1 : t1.length = n1
  l2 : t2.length = n2
  i1 : Pk.Is t1 D1 (xT F s)
  i2 : Pk.Is t2 D2 (xS F s)
  r1 : F.R < 2 ^ D1
  r2 : F.K < 2 ^ D2
  b1 : n1 ≤ 35184372088832
  b2 : n2 ≤ 35184372088832
  bR : F.R ≤ 8796093022207
  bK : F.K ≤ 8796093022207

def Drn (w : World) (base B : Nat) (ks : List (List UInt8)) (F : Fx) (s : Df) (V : Dv) : Prop := ∃ t1 t2 n1 n2 D1 D2, Drc w base B ks F s V t1 t2 n1 n2 D1 D2

section
variable {w w' : World} {base B : Nat} {ks : List (List UInt8)} {F : Fx} {s : Df} {V : Dv} {t1 t2 : List Int} {n1 n2 D1 D2 : Nat}

theorem Drc.still (h : Drc w base B ks F s V t1 t2 n1 n2 D1 D2) (ht : Tn [] w w') : Drc w' base B ks F s V t1 t2 n1 n2 D1 D2 := { h with cl := h.cl.still ht }
theorem Drn.still (h : Drn w base B ks F s V) (ht : Tn [] w w') : Drn w' base B ks F s V := by
  obtain ⟨t1, t2, n1, n2, D1, D2, h⟩ := h
  exact ⟨t1, t2, n1, n2, D1, D2, h.still ht⟩

theorem row_ints {g n c : Nat} {l : List Int} (h : w.ownsRow base 3 1 (sl g n c) n (ints l)) (i : Nat) (hi : i < n) : w.cell? ⟨g, i, none⟩ = some (.int .i64 (Pk.at' l i)) := by
  have hl := h.1
  rw [ints_length, Nat.mul_one] at hl
  have := World.ownsRow.cellAt h i (by omega)
  rw [this]
  simp [ints, Pk.at', List.getD, hl, hi]

theorem Drc.krow (h : Drc w base B ks F s V t1 t2 n1 n2 D1 D2) : w.ownsRow base 3 1 (sl V.gk F.R V.ck) F.R (ints (ofs F.kn)) := h.cl.row 2 _ rfl
theorem Drc.nrow (h : Drc w base B ks F s V t1 t2 n1 n2 D1 D2) : w.ownsRow base 3 1 (sl V.gn F.R V.cn) F.R (ints (ofs F.nx)) := h.cl.row 3 _ rfl
theorem Drc.frow (h : Drc w base B ks F s V t1 t2 n1 n2 D1 D2) : w.ownsRow base 3 1 (sl V.gf F.K V.cf) F.K (ints (ofs s.fs)) := h.cl.row 4 _ rfl
theorem Drc.grow (h : Drc w base B ks F s V t1 t2 n1 n2 D1 D2) : w.ownsRow base 3 1 (sl V.gg F.K V.cg) F.K (ints (ofs s.gp)) := h.cl.row 7 _ rfl
theorem Drc.arow (h : Drc w base B ks F s V t1 t2 n1 n2 D1 D2) : w.ownsRow base 33 4 (sl V.ga F.K V.ca) F.K (flatE s.al) := h.cl.row 6 _ rfl
theorem Drc.rrow (h : Drc w base B ks F s V t1 t2 n1 n2 D1 D2) : w.ownsRow base 33 4 V.vR F.R (flatE s.row) := h.cl.row 1 _ rfl
theorem Drc.srow (h : Drc w base B ks F s V t1 t2 n1 n2 D1 D2) : w.ownsRow base 9 1 V.vK F.K (ks.map encStr) := h.cl.row 0 _ rfl
theorem Drc.trow (h : Drc w base B ks F s V t1 t2 n1 n2 D1 D2) : Ir w base (sl V.gt n1 V.ct) t1 := by
  have : w.ownsRow base 3 1 (sl V.gt n1 V.ct) n1 (ints t1) := h.cl.row 5 _ rfl
  unfold Ir
  rw [h.l1]
  exact this
theorem Drc.irow (h : Drc w base B ks F s V t1 t2 n1 n2 D1 D2) : Ir w base (sl V.gs n2 V.cs) t2 := by
  have : w.ownsRow base 3 1 (sl V.gs n2 V.cs) n2 (ints t2) := h.cl.row 8 _ rfl
  unfold Ir
  rw [h.l2]
  exact this

theorem Drc.kcell (h : Drc w base B ks F s V t1 t2 n1 n2 D1 D2) {a : Nat} (ha : a < F.R) : w.cell? ⟨V.gk, a, none⟩ = some (.int .i64 (F.k a : Nat)) := by
  rw [row_ints h.krow a ha, ofs_at]; rfl
theorem Drc.ncell (h : Drc w base B ks F s V t1 t2 n1 n2 D1 D2) {a : Nat} (ha : a < F.R) : w.cell? ⟨V.gn, a, none⟩ = some (.int .i64 (F.n a : Nat)) := by
  rw [row_ints h.nrow a ha, ofs_at]; rfl
theorem Drc.fcell (h : Drc w base B ks F s V t1 t2 n1 n2 D1 D2) {a : Nat} (ha : a < F.K) : w.cell? ⟨V.gf, a, none⟩ = some (.int .i64 (s.f a : Nat)) := by
  rw [row_ints h.frow a ha, ofs_at]; rfl
theorem Drc.gcell (h : Drc w base B ks F s V t1 t2 n1 n2 D1 D2) {a : Nat} (ha : a < F.K) : w.cell? ⟨V.gg, a, none⟩ = some (.int .i64 (s.g a : Nat)) := by
  rw [row_ints h.grow a ha, ofs_at]; rfl

theorem row_en {g n c : Nat} {l : List En} (h : w.ownsRow base 33 4 (sl g n c) n (flatE l)) (i : Nat) (hi : i < n) : w.cell? ⟨g, i * 4, none⟩ = some (.string (l.getD i En.zero).key) ∧ w.cell? ⟨g, i * 4 + 1, none⟩ = some (.int .i64 (l.getD i En.zero).s) ∧ w.cell? ⟨g, i * 4 + 2, none⟩ = some (.int .i64 (l.getD i En.zero).g) ∧ w.cell? ⟨g, i * 4 + 3, none⟩ = some (.int .i64 (l.getD i En.zero).c) := by
  have hl := h.1
  rw [flatE_len] at hl
  have hil : i < l.length := by omega
  have he : l[i]? = some (l.getD i En.zero) := by simp [List.getD, hil]
  obtain ⟨h0, h1, h2, h3⟩ := flatE_at l i _ he
  rw [World.ownsRow.cellAt h _ (by omega), World.ownsRow.cellAt h _ (by omega), World.ownsRow.cellAt h _ (by omega), World.ownsRow.cellAt h _ (by omega)]
  exact ⟨h0, h1, h2, h3⟩

theorem Drc.below (h : Drc w base B ks F s V t1 t2 n1 n2 D1 D2) : base ≤ w.heap.size := by
  have := h.cl.blk.lt
  have := h.cl.ge
  omega

theorem Drc.bs_ge (h : Drc w base B ks F s V t1 t2 n1 n2 D1 D2) : ∀ x ∈ V.bs B, base ≤ x ∧ ∃ cs t, w.heap[x]? = some (.cells cs t (0, 0)) := by
  have hk : ∀ (i : Nat) r x, (drRows ks F s V t1 t2 n1 n2)[i]? = some r → r.v.ownBlock = some x → base ≤ x ∧ ∃ cs t, w.heap[x]? = some (.cells cs t (0, 0)) := fun i r x hi hx => by
    rcases (h.cl.row i r hi).2 with ⟨h1, _⟩ | ⟨g, cap, cur, h1, h2, h3, _⟩
    · rw [h1] at hx; cases hx
    · rw [h1] at hx
      cases hx
      exact ⟨h2, _, _, h3⟩
  intro x hx
  simp only [Dv.bs, List.mem_cons] at hx
  rcases hx with rfl | rfl | rfl | rfl | rfl | rfl | hx
  · exact ⟨h.cl.ge, _, _, h.cl.blk⟩
  · exact hk 4 _ _ rfl rfl
  · exact hk 5 _ _ rfl rfl
  · exact hk 6 _ _ rfl rfl
  · exact hk 7 _ _ rfl rfl
  · exact hk 8 _ _ rfl rfl
  · refine hk 1 _ x rfl ?_
    show V.vR.ownBlock = some x
    cases hb : V.vR.ownBlock with
    | none => rw [hb] at hx; simp at hx
    | some y => rw [hb] at hx; simp at hx; rw [hx]

theorem Drc.at (h : Drc w base B ks F s V t1 t2 n1 n2 D1 D2) (j : Nat) : w.cell? ⟨B, j, none⟩ = (drVals F s V n1 n2)[j]? := h.cl.blk.cell j

/-- A place is taken out. -/
theorem xT_take (h : Inv F (num ks) (kw ks) s) {a : Nat} (ha : a < s.came) (hf : s.f (F.k a) = a) : xT F (take F s a) = Pk.upd (xT F s) a 0 := by
  have hc := h.came
  funext b
  unfold xT Pk.upd
  rw [take_th h ha hf]
  by_cases hb : b = a
  · subst hb
    rw [if_neg (by omega), if_pos rfl]
    simp
  · rw [if_neg hb]
    simp [hb]
end
end Go.Proofs.YtoehlgigidgfpaaGreat

namespace Go.Proofs.YtoehlgigidgfpaaGreat
open Go.Shelf
def Tryz.drSort_ren : Go.Shelf.Ren := ⟨fun | 6 => 149 | 8 => 169 | 9 => 168 | 19 => 197 | 20 => 198 | 21 => 188 | 22 => 189 | 23 => 190 | 24 => 191 | 25 => 192 | 26 => 193 | 27 => 194 | 28 => 195 | 29 => 196 | 36 => 206 | 31 => 207 | 32 => 208 | 37 => 209 | 38 => 210 | 39 => 211 | 41 => 216 | n => n, fun | 27 => 211 | 29 => 9 | 3 => 3 | 32 => 231 | 26 => 211 | 0 => 0 | 44 => 256 | 46 => 258 | 4 => 4 | 36 => 250 | 35 => 249 | 41 => 130 | 5 => 5 | 9 => 9 | 53 => 264 | 57 => 268 | 63 => 275 | 64 => 276 | n => n, fun | n => n⟩
theorem Tryz.drSort : Go.Proofs.SlLaysM.n6 Tryz.prog Tryz.drSort_ren := {
  mixed := by kernel_rfl
  f6 := ⟨Tryz.f149.name, by decide, Tryz.func149.trans (congrArg some (by kernel_rfl))⟩
  f8 := Tryz.func169.trans (congrArg some (by kernel_rfl))
  f9 := ⟨Tryz.f168.name, by decide, Tryz.func168.trans (congrArg some (by kernel_rfl))⟩
  f19 := Tryz.func197.trans (congrArg some (by kernel_rfl))
  f20 := Tryz.func198.trans (congrArg some (by kernel_rfl))
  f21 := ⟨Tryz.f188.name, by decide, Tryz.func188.trans (congrArg some (by kernel_rfl))⟩
  f22 := ⟨Tryz.f189.name, by decide, Tryz.func189.trans (congrArg some (by kernel_rfl))⟩
  f23 := ⟨Tryz.f190.name, by decide, Tryz.func190.trans (congrArg some (by kernel_rfl))⟩
  f24 := ⟨Tryz.f191.name, by decide, Tryz.func191.trans (congrArg some (by kernel_rfl))⟩
  f25 := ⟨Tryz.f192.name, by decide, Tryz.func192.trans (congrArg some (by kernel_rfl))⟩
  f26 := ⟨Tryz.f193.name, by decide, Tryz.func193.trans (congrArg some (by kernel_rfl))⟩
  f27 := ⟨Tryz.f194.name, by decide, Tryz.func194.trans (congrArg some (by kernel_rfl))⟩
  f28 := ⟨Tryz.f195.name, by decide, Tryz.func195.trans (congrArg some (by kernel_rfl))⟩
  f29 := ⟨Tryz.f196.name, by decide, Tryz.func196.trans (congrArg some (by kernel_rfl))⟩
  f31 := Tryz.func207.trans (congrArg some (by kernel_rfl))
  f32 := Tryz.func208.trans (congrArg some (by kernel_rfl))
  f36 := ⟨Tryz.f206.name, by decide, Tryz.func206.trans (congrArg some (by kernel_rfl))⟩
  f37 := ⟨Tryz.f209.name, by decide, Tryz.func209.trans (congrArg some (by kernel_rfl))⟩
  f38 := ⟨Tryz.f210.name, by decide, Tryz.func210.trans (congrArg some (by kernel_rfl))⟩
  f39 := ⟨Tryz.f211.name, by decide, Tryz.func211.trans (congrArg some (by kernel_rfl))⟩
  f41 := ⟨Tryz.f216.name, by decide, Tryz.func216.trans (congrArg some (by kernel_rfl))⟩
  t0 := Tryz.underlying0
  a0 := Tryz.isAgg0
  z0 := Tryz.sizeOf0
  v0 := Tryz.zeroValue0
  t3 := Tryz.underlying3
  a3 := Tryz.isAgg3
  z3 := Tryz.sizeOf3
  v3 := Tryz.zeroValue3
  t4 := Tryz.underlying4
  a4 := Tryz.isAgg4
  z4 := Tryz.sizeOf4
  v4 := Tryz.zeroValue4
  t5 := Tryz.underlying5
  a5 := Tryz.isAgg5
  z5 := Tryz.sizeOf5
  v5 := Tryz.zeroValue5
  t9 := Tryz.underlying9
  a9 := Tryz.isAgg9
  z9 := Tryz.sizeOf9
  v9 := Tryz.zeroValue9
  t26 := Tryz.underlying211
  a26 := Tryz.isAgg211
  z26 := Tryz.sizeOf211
  v26 := Tryz.zeroValue211
  t27 := Tryz.underlying211
  a27 := Tryz.isAgg211
  z27 := Tryz.sizeOf211
  v27 := Tryz.zeroValue211
  t29 := Tryz.underlying9
  a29 := Tryz.isAgg9
  z29 := Tryz.sizeOf9
  v29 := Tryz.zeroValue9
  t32 := Tryz.underlying231
  a32 := Tryz.isAgg231
  z32 := Tryz.sizeOf231
  v32 := Tryz.zeroValue231
  t35 := Tryz.underlying249
  a35 := Tryz.isAgg249
  z35 := Tryz.sizeOf249
  v35 := Tryz.zeroValue249
  t36 := Tryz.underlying250
  a36 := Tryz.isAgg250
  z36 := Tryz.sizeOf250
  v36 := Tryz.zeroValue250
  t41 := Tryz.underlying130
  a41 := Tryz.isAgg130
  z41 := Tryz.sizeOf130
  v41 := Tryz.zeroValue130
  t44 := Tryz.underlying256
  a44 := Tryz.isAgg256
  z44 := Tryz.sizeOf256
  v44 := Tryz.zeroValue256
  t46 := Tryz.underlying258
  a46 := Tryz.isAgg258
  z46 := Tryz.sizeOf258
  v46 := Tryz.zeroValue258
  t53 := Tryz.underlying264
  a53 := Tryz.isAgg264
  z53 := Tryz.sizeOf264
  v53 := Tryz.zeroValue264
  t57 := Tryz.underlying268
  a57 := Tryz.isAgg268
  z57 := Tryz.sizeOf268
  v57 := Tryz.zeroValue268
  t63 := Tryz.underlying275
  a63 := Tryz.isAgg275
  z63 := Tryz.sizeOf275
  v63 := Tryz.zeroValue275
  t64 := Tryz.underlying276
  a64 := Tryz.isAgg276
  z64 := Tryz.sizeOf276
  v64 := Tryz.zeroValue276 }
def Tryz.drCompact_ren : Go.Shelf.Ren := ⟨fun | 44 => 150 | n => n, fun | 25 => 211 | 26 => 9 | 3 => 3 | 4 => 4 | 0 => 0 | n => n, fun | n => n⟩
theorem Tryz.drCompact : Go.Proofs.SlLaysN.n44 Tryz.prog Tryz.drCompact_ren := {
  mixed := by kernel_rfl
  f44 := ⟨Tryz.f150.name, by decide, Tryz.func150.trans (congrArg some (by kernel_rfl))⟩
  t0 := Tryz.underlying0
  a0 := Tryz.isAgg0
  z0 := Tryz.sizeOf0
  v0 := Tryz.zeroValue0
  t3 := Tryz.underlying3
  a3 := Tryz.isAgg3
  z3 := Tryz.sizeOf3
  v3 := Tryz.zeroValue3
  t4 := Tryz.underlying4
  a4 := Tryz.isAgg4
  z4 := Tryz.sizeOf4
  v4 := Tryz.zeroValue4
  t25 := Tryz.underlying211
  a25 := Tryz.isAgg211
  z25 := Tryz.sizeOf211
  v25 := Tryz.zeroValue211
  t26 := Tryz.underlying9
  a26 := Tryz.isAgg9
  z26 := Tryz.sizeOf9
  v26 := Tryz.zeroValue9
  i26 := by kernel_rfl }
def Tryz.drSearch_ren : Go.Shelf.Ren := ⟨fun | 26 => 173 | 33 => 194 | 34 => 201 | 38 => 211 | n => n, fun | 24 => 211 | 9 => 9 | 3 => 3 | 4 => 4 | 40 => 231 | 0 => 0 | n => n, fun | n => n⟩
theorem Tryz.drSearch : Go.Proofs.Lays2.n26 Tryz.prog Tryz.drSearch_ren := {
  mixed := by kernel_rfl
  f26 := Tryz.func173.trans (congrArg some (by kernel_rfl))
  f33 := Tryz.func194.trans (congrArg some (by kernel_rfl))
  f34 := Tryz.func201.trans (congrArg some (by kernel_rfl))
  f38 := Tryz.func211.trans (congrArg some (by kernel_rfl))
  t0 := Tryz.underlying0
  a0 := Tryz.isAgg0
  z0 := Tryz.sizeOf0
  v0 := Tryz.zeroValue0
  t3 := Tryz.underlying3
  a3 := Tryz.isAgg3
  z3 := Tryz.sizeOf3
  v3 := Tryz.zeroValue3
  t4 := Tryz.underlying4
  a4 := Tryz.isAgg4
  z4 := Tryz.sizeOf4
  v4 := Tryz.zeroValue4
  t9 := Tryz.underlying9
  a9 := Tryz.isAgg9
  z9 := Tryz.sizeOf9
  v9 := Tryz.zeroValue9
  t24 := Tryz.underlying211
  a24 := Tryz.isAgg211
  z24 := Tryz.sizeOf211
  v24 := Tryz.zeroValue211
  t40 := Tryz.underlying231
  a40 := Tryz.isAgg231
  z40 := Tryz.sizeOf231
  v40 := Tryz.zeroValue231 }
def Tryz.drMul_ren : Go.Shelf.Ren := ⟨fun | 212 => 199 | 263 => 212 | 264 => 213 | n => n, fun | 46 => 231 | 51 => 256 | 146 => 270 | 53 => 258 | 148 => 272 | n => n, fun | n => n⟩
theorem Tryz.drMul : Go.Proofs.Lays.n212 Tryz.prog Tryz.drMul_ren := {
  mixed := by kernel_rfl
  f212 := Tryz.func199.trans (congrArg some (by kernel_rfl))
  f263 := Tryz.func212.trans (congrArg some (by kernel_rfl))
  f264 := Tryz.func213.trans (congrArg some (by kernel_rfl))
  t46 := Tryz.underlying231
  a46 := Tryz.isAgg231
  z46 := Tryz.sizeOf231
  v46 := Tryz.zeroValue231
  t51 := Tryz.underlying256
  a51 := Tryz.isAgg256
  z51 := Tryz.sizeOf256
  v51 := Tryz.zeroValue256
  t53 := Tryz.underlying258
  a53 := Tryz.isAgg258
  z53 := Tryz.sizeOf258
  v53 := Tryz.zeroValue258
  t146 := Tryz.underlying270
  a146 := Tryz.isAgg270
  z146 := Tryz.sizeOf270
  v146 := Tryz.zeroValue270
  t148 := Tryz.underlying272
  a148 := Tryz.isAgg272
  z148 := Tryz.sizeOf272
  v148 := Tryz.zeroValue272 }
end Go.Proofs.YtoehlgigidgfpaaGreat

namespace Go.Proofs.YtoehlgigidgfpaaGreat
open Go.RowKit Go.Lib Go.Shelf Dr
set_option linter.unusedVariables false
set_option maxRecDepth 100000

section
variable {w : World} {base B : Nat} {ks : List (List UInt8)} {F : Fx} {s : Df} {V : Dv}

set_option maxHeartbeats 4000000 in
theorem dtake_any (h : Drn w base B ks F s V) (a : Nat) (ha : a < s.came) (hf : s.f (F.k a) = a) :
    Calls Tryz.prog 157 #[.pointer (some ⟨B, 0, none⟩), .int .i64 (a : Int)] w fun e w' => e = .returned (.tuple #[]) ∧ Drn w' base B ks F (take F s a) V ∧ Bw V B w w' := by
  obtain ⟨t1, t2, n1, n2, D1, D2, h⟩ := h
  have hc := h.inv.came
  have haR : a < F.R := by omega
  have hkK := h.inv.fx.key a haR
  have x6 : w.cell? ⟨B, 6, none⟩ = some (sl V.gt n1 V.ct) := h.at 6
  have HH : Hid (Drc w base B ks F s V t1 t2 n1 n2 D1 D2) := h
  clear h
  go_enter Tryz.func157, Tryz.ntmps157
  go_wp2_with fail
  refine (pset_any HH.out.trow HH.out.l1 HH.out.i1 HH.out.b1 a (by have := HH.out.r1; omega) 0).mono ?_
  rintro e w1 ⟨rfl, t1', g1, g2, g3, g4⟩
  have hcl : Cl w1 base B 214 (drVals F s V n1 n2) (drRows ks F s V t1' t2 n1 n2) := by
    have ho : w1.ownsRow base 3 1 (sl V.gt n1 V.ct) n1 (ints t1') := by unfold Ir at g1; rw [g2] at g1; exact g1
    exact HH.out.cl.turn (i := 5) rfl rfl g4 ho
  have y3 : w1.cell? ⟨B, 3, none⟩ = some (sl V.gk F.R V.ck) := hcl.blk.cell 3
  have y4 : w1.cell? ⟨B, 4, none⟩ = some (sl V.gn F.R V.cn) := hcl.blk.cell 4
  have y5 : w1.cell? ⟨B, 5, none⟩ = some (sl V.gf F.K V.cf) := hcl.blk.cell 5
  have kc : w1.cell? ⟨V.gk, a, none⟩ = some (.int .i64 (F.k a : Nat)) := by rw [row_ints (hcl.row 2 _ rfl) a haR, ofs_at]; rfl
  have nc : w1.cell? ⟨V.gn, a, none⟩ = some (.int .i64 (F.n a : Nat)) := by rw [row_ints (hcl.row 3 _ rfl) a haR, ofs_at]; rfl
  have fr : w1.ownsRow base 3 1 (sl V.gf F.K V.cf) F.K (ints (ofs s.fs)) := hcl.row 4 _ rfl
  have fc := row_ints fr (F.k a) hkK
  have ff : w1.frozen? ⟨V.gf, F.k a, none⟩ = false := World.ownsRow.frozenAt fr _
  have hst := World.ownsRow.stored fr (F.k a) (.int .i64 (F.n a : Nat))
  have HE : Hid (Drn (w1.setCell ⟨V.gf, F.k a, none⟩ (.int .i64 (F.n a : Nat))).drew base B ks F (take F s a) V ∧ Bw V B w (w1.setCell ⟨V.gf, F.k a, none⟩ (.int .i64 (F.n a : Nat))).drew) := by
    have ht := tn_grown hst.2
    have hB1 : Bw V B w w1 := Bw.of g4 (by simp [Dv.bs])
    have hcl2 := (hcl.turn (i := 4) rfl rfl ht hst.1).still (Tn.drew (Tn.refl [] _))
    refine ⟨⟨t1', t2, n1, n2, D1, D2, ?_⟩, hB1.trans (Bw.of ht.drew (by simp [Dv.bs]))⟩
    refine { HH.out with cl := ?_, inv := take_inv HH.out.inv ha hf, l1 := g2, i1 := by rw [xT_take HH.out.inv ha hf]; exact g3, i2 := HH.out.i2 }
    have e : drRows ks F (take F s a) V t1' t2 n1 n2 = (drRows ks F s V t1' t2 n1 n2).set 4 ⟨3, 1, sl V.gf F.K V.cf, F.K, (ints (ofs s.fs)).set (F.k a) (.int .i64 (F.n a : Nat))⟩ := by
      have : ints (ofs (take F s a).fs) = (ints (ofs s.fs)).set (F.k a) (.int .i64 (F.n a : Nat)) := by
        show ints (ofs (s.fs.set (F.k a) (F.n a))) = _
        rw [ofs_set]; simp [ints, List.map_set]
      unfold drRows
      rw [this]; rfl
    rw [e]
    exact hcl2
  have ai : (a : Int) < (F.R : Int) := by omega
  have a0 : (0 : Int) ≤ (a : Int) := by omega
  have ki : ((F.k a : Nat) : Int) < (F.K : Int) := by omega
  have k0 : (0 : Int) ≤ ((F.k a : Nat) : Int) := by omega
  clear g1 g2 g3 g4 hcl fr hst x6
  generalize F.k a = k at *
  generalize Pk.at' (ofs s.fs) k = y at *
  obtain ⟨m, hm⟩ : ∃ m : Int, ((F.n a : Nat) : Int) = m := ⟨_, rfl⟩
  rw [hm] at nc HE
  clear hm
  go_wp2_with fail
  go_region
  go_wp2
  go_end0
  exact ⟨rfl, HE.out.1, HE.out.2⟩

set_option maxHeartbeats 4000000 in
theorem number_row {vK : Value} {K : Nat} (x0 : w.cell? ⟨B, 0, none⟩ = some vK) (hrow : w.ownsRow base 9 1 vK K (ks.map encStr)) (hkl : ks.length = K) (hb : K ≤ 8796093022207) (hrise : Rise ks) (key : ByteArray) :
    Calls Tryz.prog 154 #[.pointer (some ⟨B, 0, none⟩), .string key] w fun e w' => e = .returned (.int .i64 (num ks key : Nat)) ∧ Tn [] w w' := by
  rcases hrow.2 with ⟨hv, hn⟩ | ⟨g, cap, cur, hv, _, _, h1, h2, _⟩
  · rw [hv] at x0
    have hnum : num ks key = 0 := by
      have : ks = [] := List.eq_nil_of_length_eq_zero (by omega)
      rw [this]; rfl
    rw [hnum]
    clear hrow hnum hrise hv
    go_enter Tryz.func154, Tryz.ntmps154
    go_wp2_with fail
    refine (Any2.slices_BinarySearch_string_empty Tryz.drSearch none 0 key w).mono ?_
    rintro e w1 ⟨rfl, rfl⟩
    go_wp2
    go_ret
    exact ⟨rfl, Tn.refl _ _⟩
  · rw [hv] at x0 hrow
    obtain ⟨Sx, HS, HN⟩ : ∃ Sx : Nat → ByteArray, Hid (∀ j, j < K → w.cell? ⟨g, 0 + j, none⟩ = some (.string (Sx j))) ∧ Hid (bsGo (fun t => Op.bytesLess (Sx t).toList key.toList) K 0 K = num ks key) := by
      refine ⟨fun t => if h : t < ks.length then ⟨ks[t].toArray⟩ else key, ?_, ?_⟩
      · intro j hj
        simp only [Nat.zero_add]
        rw [World.ownsRow.cellAt hrow j (by omega), dif_pos (by omega)]
        simp [encStr, show j < ks.length by omega]
      · rw [Hid, ← hkl]
        refine search_num hrise key (fun t => if h : t < ks.length then ⟨ks[t].toArray⟩ else key) (fun t ht => ?_) (fun t ht => ?_)
        · simp only [ht, dif_pos]
          rw [ByteArray.toList_eq]
        · rw [dif_neg (by omega)]
    obtain ⟨m, hm⟩ : ∃ m : Nat, num ks key = m := ⟨_, rfl⟩
    rw [hm] at HN ⊢
    clear hrow hrise hv hm
    go_enter Tryz.func154, Tryz.ntmps154
    go_wp2_with fail
    refine (Any2.slices_BinarySearch_string Tryz.drSearch g 0 K cap Sx key w (by omega) HS.out).mono ?_
    rw [HN.out]
    generalize decide (m < K ∧ Sx m = key) = bb
    rintro e w1 ⟨rfl, q, rfl⟩
    go_wp2
    go_ret
    exact ⟨rfl, Tn.of_below (below_drewN (Below.refl _ _) _) _⟩

theorem number_any (h : Drn w base B ks F s V) (key : ByteArray) :
    Calls Tryz.prog 154 #[.pointer (some ⟨B, 0, none⟩), .string key] w fun e w' => e = .returned (.int .i64 (num ks key : Nat)) ∧ Tn [] w w' := by
  obtain ⟨t1, t2, n1, n2, D1, D2, h⟩ := h
  exact number_row (h.at 0) h.srow h.kl h.bK h.rise key

/-- So many more have come. -/
def comes (s : Df) (m : Nat) : Df := { s with came := s.came + m }

theorem xT_come (h : Inv F (num ks) (kw ks) s) (hc : s.came < F.R) : xT F (come1 s) = Pk.upd (xT F s) s.came ((F.k s.came : Int) + 1) := by
  have hl := h.left s.came (Nat.le_refl _) hc
  funext b
  unfold xT Pk.upd
  by_cases hb : b = s.came
  · subst hb
    rw [if_neg (by omega), if_pos rfl]
    have : th F (come1 s) s.came = true := by
      unfold th
      show (decide (s.came < s.came + 1) && decide (s.f _ ≤ _)) = true
      simp [hl]
    rw [this]; rfl
  · rw [if_neg hb]
    have : th F (come1 s) b = th F s b := by
      unfold th
      show (decide (b < s.came + 1) && decide (s.f _ ≤ _)) = _
      by_cases h1 : b < s.came
      · simp [h1, show b < s.came + 1 by omega]
      · simp [h1, show ¬ b < s.came + 1 by omega]
    rw [this]

theorem Inv.comes {m : Nat} (h : Inv F (num ks) (kw ks) s) (hm : s.came + m ≤ F.R) : Inv F (num ks) (kw ks) (comes s m) := by
  induction m with
  | zero => exact h
  | succ m ih => exact come_inv (ih (by omega)) (by show s.came + m < F.R; omega)

set_option maxHeartbeats 4000000 in
theorem come_any (h : Drn w base B ks F s V) (m : Nat) (hm : s.came + m ≤ F.R) :
    Calls Tryz.prog 133 #[.pointer (some ⟨B, 0, none⟩), .int .i64 (m : Int)] w fun e w' => e = .returned (.tuple #[]) ∧ Drn w' base B ks F (comes s m) V ∧ Bw V B w w' := by
  have HH : Hid (Drn w base B ks F (comes s 0) V ∧ Bw V B w w) := ⟨h, Bw.refl _ _ _⟩
  have hmb : m ≤ 8796093022207 := by
    obtain ⟨t1, t2, n1, n2, D1, D2, h⟩ := h
    have := h.bR
    omega
  have HM : Hid (s.came + m ≤ F.R) := hm
  clear h hm
  go_enter Tryz.func133, Tryz.ntmps133
  go_wp2_with fail
  go_loopw [5] (fun i wr => ∃ k : Nat, k ≤ m ∧ i = .int .i64 (k : Int) ∧ Hid (Drn wr base B ks F (comes s k) V ∧ Bw V B w wr)) (fun i _ => m - (intOf i).toNat)
  case atStart => exact ⟨0, Nat.zero_le _, rfl, HH⟩
  case round =>
    obtain ⟨k, hk, rfl, HW⟩ := hrel
    clear HH
    by_cases hlt : k < m
    · have hki : (k : Int) < (m : Int) := by omega
      obtain ⟨⟨t1, t2, n1, n2, D1, D2, h⟩, hB⟩ := HW.out
      have hcR : (comes s k).came < F.R := by show s.came + k < F.R; have := HM.out; omega
      obtain ⟨c, hc⟩ : ∃ c : Nat, (comes s k).came = c := ⟨_, rfl⟩
      have hR := h.bR
      have hkK := h.inv.fx.key c (by omega)
      have hbK := h.bK
      have x2 : wr.cell? ⟨B, 2, none⟩ = some (.int .i64 (c : Int)) := by rw [← hc]; exact h.at 2
      have x3 : wr.cell? ⟨B, 3, none⟩ = some (sl V.gk F.R V.ck) := h.at 3
      have x6 : wr.cell? ⟨B, 6, none⟩ = some (sl V.gt n1 V.ct) := h.at 6
      have kc := h.kcell (show c < F.R by omega)
      have HD : Hid (Drc wr.drew base B ks F (comes s k) V t1 t2 n1 n2 D1 D2) := h.still (Tn.drew (Tn.refl [] _))
      have HB : Hid (Bw V B w wr) := hB
      have HC : Hid ((comes s k).came = c) := hc
      have HcR : Hid (c < F.R) := by rw [Hid, ← hc]; exact hcR
      have ci : (c : Int) < (F.R : Int) := by omega
      have c0 : (0 : Int) ≤ (c : Int) := by omega
      clear h hB hc hcR HW
      obtain ⟨y, hy⟩ : ∃ y : Nat, F.k c = y := ⟨_, rfl⟩
      rw [hy] at kc hkK
      have HY : Hid (F.k c = y) := hy
      have hyb : y ≤ 8796093022207 := by omega
      clear hy
      go_wp2_with fail
      go_still_tail 19, (by kernel_rfl)
      go_wp2_with fail
      refine (pset_any HD.out.trow HD.out.l1 HD.out.i1 HD.out.b1 c (by have := HD.out.r1; have := HcR.out; omega) ((y : Int) + 1)).mono ?_
      rintro e w1 ⟨rfl, t1', g1, g2, g3, g4⟩
      have hcl : Cl w1 base B 214 (drVals F (comes s k) V n1 n2) (drRows ks F (comes s k) V t1' t2 n1 n2) := by
        have ho : w1.ownsRow base 3 1 (sl V.gt n1 V.ct) n1 (ints t1') := by unfold Ir at g1; rw [g2] at g1; exact g1
        exact HD.out.cl.turn (i := 5) rfl rfl g4 ho
      have z2 : w1.cell? ⟨B, 2, none⟩ = some (.int .i64 (c : Int)) := by rw [← HC.out]; exact hcl.blk.cell 2
      have f2 : w1.frozen? ⟨B, 2, none⟩ = false := hcl.blk.frozen 2
      obtain ⟨hp1, hp2⟩ := hcl.put 2 (.int .i64 ((c : Int) + 1))
      obtain ⟨w2, hw2⟩ : ∃ w2, w1.setCell ⟨B, 2, none⟩ (.int .i64 ((c : Int) + 1)) = w2 := ⟨_, rfl⟩
      rw [hw2] at hp1 hp2
      have HE : Hid (Drn w2 base B ks F (comes s (k + 1)) V ∧ Bw V B w w2) := by
        have hB1 : Bw V B wr.drew w1 := Bw.of g4 (by simp [Dv.bs])
        have hB2 : Bw V B w1 w2 := Bw.of hp2 (by simp [Dv.bs])
        refine ⟨⟨t1', t2, n1, n2, D1, D2, ?_⟩, HB.out.trans ((Bw.of (Tn.drew (Tn.refl [] wr)) (by simp)).trans (hB1.trans hB2))⟩
        have hcR : (comes s k).came < F.R := by rw [HC.out]; exact HcR.out
        have hx := xT_come HD.out.inv hcR
        rw [HC.out, HY.out] at hx
        refine { HD.out with cl := ?_, inv := come_inv HD.out.inv hcR, l1 := g2, i1 := ?_, i2 := HD.out.i2 }
        · have e1 : drVals F (comes s (k + 1)) V n1 n2 = (drVals F (comes s k) V n1 n2).setIfInBounds 2 (.int .i64 ((c : Int) + 1)) := by
            have : ((comes s (k + 1)).came : Int) = (c : Int) + 1 := by
              have := HC.out
              show ((s.came + (k + 1) : Nat) : Int) = _
              have h3 : (comes s k).came = s.came + k := rfl
              omega
            unfold drVals
            rw [this]; rfl
          rw [e1]
          exact hp1
        · have : xT F (comes s (k + 1)) = xT F (come1 (comes s k)) := rfl
          rw [this, hx]
          exact g3
      clear g1 g2 g3 g4 hcl hp1 hp2 x2 x3 x6 kc HD
      have hcb : c ≤ 8796093022207 := by omega
      go_wp2
      exact ⟨⟨k + 1, by omega, by go_num, HE⟩, by simp [intOf]; omega⟩
    · have hki : ¬ (k : Int) < (m : Int) := by omega
      have hkm : k = m := by omega
      have HE : Hid (Drn wr base B ks F (comes s m) V ∧ Bw V B w wr) := by rw [← hkm]; exact HW
      go_wp2
      go_end0
      exact ⟨rfl, HE.out.1, HE.out.2⟩
end
end Go.Proofs.YtoehlgigidgfpaaGreat

namespace Go.Proofs.YtoehlgigidgfpaaGreat
open Go.RowKit Go.Lib Go.Shelf
set_option linter.unusedVariables false
set_option maxRecDepth 100000

theorem intsize : (Tryz.prog.info? 3).map (·.size) = some 1 := by kernel_rfl

def rep (m K : Nat) (R : Int) : List Int := List.replicate m R ++ List.replicate (K - m) 0

theorem rep_len (m K : Nat) (R : Int) (h : m ≤ K) : (rep m K R).length = K := by simp [rep]; omega

theorem copy_rep {w : World} {g m K c : Nat} {R : Int} (hB : Bk w g 3 (ints (rep m K R)).toArray) (hc : c = Nat.min m (K - m)) (hm : m ≤ K) :
    ∃ w', (∀ ty dc sc, (Builtin.copy_ #[93, 93] ty #[.slice (some ⟨g, m, none⟩) (K - m) dc, .slice (some ⟨g, 0, none⟩) m sc]).run Tryz.prog w = .ok (goInt (c : Int)) w') ∧ Bk w' g 3 (ints (rep (m + c) K R)).toArray ∧ Tn [g] w w' := by
  have hlr := rep_len m K R hm
  have hcm : c ≤ m ∧ c ≤ K - m := by subst hc; simp only [Nat.min_def]; split <;> omega
  have hsz : (ints (rep m K R)).toArray.size = K := by simp [ints, hlr]
  have hr := fun ty dc sc => run_copy_row (P := Tryz.prog) w 93 93 ty 3 g m (K - m) dc ⟨g, 0, none⟩ m sc (ints (rep m K R)).toArray 3 (ints (List.replicate c R)) Tryz.underlying93 intsize hB (by rw [ints_length, List.length_replicate]; exact hc)
    (fun j v hj => by
      rw [show (⟨g, 0, none⟩ : Addr).add j = ⟨g, j, none⟩ by unfold Addr.add; split <;> simp_all]
      rw [hB.cell j]
      have hjc : j < c := by have := (List.getElem?_eq_some_iff.1 hj).1; simpa [ints] using this
      simp only [ints, List.getElem?_toArray, List.getElem?_map] at hj ⊢
      rw [show (rep m K R)[j]? = (List.replicate c R)[j]? by
        rw [rep, List.getElem?_append_left (by simp; omega)]
        simp [hjc, show j < m by omega]]
      exact hj)
    (by rw [hsz, ints_length, List.length_replicate]; omega)
    (fun v hv => by
      obtain ⟨x, _, rfl⟩ := List.mem_map.1 hv
      rfl)
  simp only [ints_length, List.length_replicate] at hr
  refine ⟨_, hr, ?_, (Tn.refl _ w).setRow (.inl (by simp)) _⟩
  have e : ((ints (rep m K R)).toArray.toList.take m ++ ints (List.replicate c R) ++ (ints (rep m K R)).toArray.toList.drop (m + c)) = ints (rep (m + c) K R) := by
    simp only [ints, ← List.map_take, ← List.map_drop, ← List.map_append]
    congr 1
    unfold rep
    rw [List.take_append_of_le_length (by simp), List.take_of_length_le (by simp), List.replicate_append_replicate, List.drop_append]
    simp only [List.length_replicate, List.drop_replicate]
    rw [show m - (m + c) = 0 by omega, show m + c - m = c by omega]
    simp only [List.replicate_zero, List.nil_append]
    rw [show K - m - c = K - (m + c) by omega]
  rw [e]
  exact hB.setRow _

set_option maxHeartbeats 4000000 in
theorem repeat_any (b : Nat) (c K : Nat) (R : Int) (w : World) (hb : w.cell? ⟨b, 0, none⟩ = some (.int .i64 R)) (hK : K ≤ 8796093022207) :
    Calls Tryz.prog 170 #[.slice (some ⟨b, 0, none⟩) 1 c, .int .i64 (K : Int)] w fun e w' => e = .returned (.slice (some ⟨w.heap.size, 0, none⟩) K K) ∧ Ir w' w.heap.size (.slice (some ⟨w.heap.size, 0, none⟩) K K) (List.replicate K R) ∧ Below w.heap.size w w' := by
  have hblt : b < w.heap.size := World.block_lt_of_cell? w _ hb
  have hbb := hb
  have h0 : ¬ (K : Int) < 0 := by omega
  have hKm : ¬ (9223372036854775807 : Int) < (K : Int) := by omega
  obtain ⟨w1, hmk, hI, hB1⟩ := make_ints 93 Tryz.underlying93 K (by omega) w
  have hbk : Bk w1 w.heap.size 3 (ints (List.replicate K 0)).toArray := by
    rcases hI.2 with ⟨h1, _⟩ | ⟨g, cap, cur, hv, _, hg, _, _, hcs, ht⟩
    · cases h1
    · simp only [List.length_replicate, Value.slice.injEq, Option.some.injEq, Addr.mk.injEq, and_true, true_and] at hv
      obtain ⟨hg1, hg2⟩ := hv
      subst hg1
      subst hg2
      have : cur = (ints (List.replicate K 0)).toArray := by
        rw [← ht, List.take_of_length_le (by rw [Array.length_toList, hcs, List.length_replicate]; omega)]
      rw [← this]
      exact hg
  have hb1 : w1.cell? ⟨b, 0, none⟩ = some (.int .i64 R) := by rw [hB1.cell (p := ⟨b, 0, none⟩) hblt]; exact hb
  have HI0 : Hid (K = 0 → Ir w1 w.heap.size (.slice (some ⟨w.heap.size, 0, none⟩) K K) (List.replicate K 0)) := fun _ => hI
  clear hI hb
  by_cases hK0 : K = 0
  · have hcp : ∀ ty, (Builtin.copy_ #[93, 93] ty #[.slice (some ⟨w.heap.size, 0, none⟩) K K, .slice (some ⟨b, 0, none⟩) 1 c]).run Tryz.prog w1 = .ok (goInt 0) w1 := fun ty => run_copy_none w1 _ _ ty 3 _ _ _ _ _ _ Tryz.underlying93 intsize (by rw [hK0]; rfl)
    have HE : Hid (Ir w1 w.heap.size (.slice (some ⟨w.heap.size, 0, none⟩) K K) (List.replicate K R) ∧ Below w.heap.size w w1) := ⟨by have := HI0.out hK0; rw [hK0] at this ⊢; exact this, hB1⟩
    have hlt0 : ¬ (0 : Int) < (K : Int) := by omega
    have HK0 : Hid (K = 0) := hK0
    clear hbk hb1 hbb hK0 HI0
    go_enter Tryz.func170, Tryz.ntmps170
    go_wp2_with fail
    refine (Any.bits_Mul Tryz.drMul 1 K (by omega) (by omega) w).mono ?_
    rintro e w' ⟨rfl, rfl⟩
    rw [show 1 * K / 18446744073709551616 = 0 by omega, show 1 * K % 18446744073709551616 = K by omega]
    go_wp2_with fail
    go_loopw [8] (fun nv wr => nv = .int .i64 0 ∧ wr = w1) (fun _ _ => 0)
    case atStart => exact ⟨rfl, rfl⟩
    case round =>
      obtain ⟨rfl, rfl⟩ := hrel
      go_wp2
      go_ret
      exact ⟨rfl, HE.out.1, HE.out.2⟩
  · obtain ⟨w2, hcp, hb2, ht2⟩ : ∃ w2, (∀ ty, (Builtin.copy_ #[93, 93] ty #[.slice (some ⟨w.heap.size, 0, none⟩) K K, .slice (some ⟨b, 0, none⟩) 1 c]).run Tryz.prog w1 = .ok (goInt 1) w2) ∧ Bk w2 w.heap.size 3 (ints (rep 1 K R)).toArray ∧ Tn [w.heap.size] w1 w2 := by
      have hsz : (ints (List.replicate K 0)).toArray.size = K := by simp [ints]
      refine ⟨w1.setRow w.heap.size (ints (rep 1 K R)).toArray, fun ty => ?_, hbk.setRow _, (Tn.refl _ w1).setRow (.inl (by simp)) _⟩
      have hr := run_copy_row (P := Tryz.prog) w1 93 93 ty 3 w.heap.size 0 K K ⟨b, 0, none⟩ 1 c (ints (List.replicate K 0)).toArray 3 [.int .i64 R] Tryz.underlying93 intsize hbk (by simp only [List.length_singleton, Nat.min_def]; split <;> omega)
        (fun j v hj => by
          have hj0 : j = 0 := by have := (List.getElem?_eq_some_iff.1 hj).1; simp at this; omega
          subst hj0
          simp at hj
          subst hj
          exact hb1) (by rw [hsz]; simp; omega) (fun v hv => by simp at hv; subst hv; rfl)
      rw [hr]
      have e : ((ints (List.replicate K 0)).toArray.toList.take 0 ++ [Value.int .i64 R] ++ (ints (List.replicate K 0)).toArray.toList.drop (0 + [Value.int .i64 R].length)) = ints (rep 1 K R) := by
        simp [ints, rep]
      rw [e]
      rfl
    go_enter Tryz.func170, Tryz.ntmps170
    go_wp2_with fail
    refine (Any.bits_Mul Tryz.drMul 1 K (by omega) (by omega) w).mono ?_
    rintro e w' ⟨rfl, rfl⟩
    rw [show 1 * K / 18446744073709551616 = 0 by omega, show 1 * K % 18446744073709551616 = K by omega]
    have HB2 : Hid (Below w'.heap.size w' w2) := hB1.trans (ht2.below hB1.size (by simp))
    have HK2 : Hid (Bk w2 w'.heap.size 3 (ints (rep 1 K R)).toArray) := hb2
    clear hb2 ht2 hbk hb1 hbb HI0
    go_wp2_with fail
    go_loopw [8] (fun nv wr => ∃ m : Nat, 1 ≤ m ∧ m ≤ K ∧ nv = .int .i64 (m : Int) ∧ Hid (Bk wr w'.heap.size 3 (ints (rep m K R)).toArray ∧ Below w'.heap.size w' wr)) (fun nv _ => K - (intOf nv).toNat)
    case atStart => exact ⟨1, Nat.le_refl _, by omega, rfl, HK2.out, HB2.out⟩
    case round =>
      obtain ⟨m, hm1, hmK, rfl, HW⟩ := hrel
      clear HK2 HB2 hcp hmk
      by_cases hlt : m < K
      · have hli : (m : Int) < (K : Int) := by omega
        have hle : (m : Int) ≤ (K : Int) := by omega
        have hm0 : (0 : Int) ≤ (m : Int) := by omega
        have hne : ¬ K = m := by omega
        obtain ⟨q, hq⟩ : ∃ q, q = Nat.min m (K - m) := ⟨_, rfl⟩
        have hqb : 1 ≤ q ∧ q ≤ K - m := by subst hq; simp only [Nat.min_def]; split <;> omega
        obtain ⟨w3, hcp, hb3, ht3⟩ : ∃ w3, (∀ ty dc sc, (Builtin.copy_ #[93, 93] ty #[.slice (some ⟨w'.heap.size, m, none⟩) (K - m) dc, .slice (some ⟨w'.heap.size, 0, none⟩) m sc]).run Tryz.prog wr.drew = .ok (goInt (q : Int)) w3) ∧ Bk w3 w'.heap.size 3 (ints (rep (m + q) K R)).toArray ∧ Tn [w'.heap.size] wr.drew w3 := by
          exact copy_rep (w := wr.drew) HW.out.1 hq hmK
        have HE : Hid (Bk w3 w'.heap.size 3 (ints (rep (m + q) K R)).toArray ∧ Below w'.heap.size w' w3) := ⟨hb3, (HW.out.2.drew).trans (ht3.below HW.out.2.size (by simp))⟩
        clear hb3 ht3 HW hq
        go_wp2_with fail
        go_region
        go_wp2
        exact ⟨⟨m + q, by omega, by omega, by go_num, HE⟩, by simp [intOf]; omega⟩
      · have hli : ¬ (m : Int) < (K : Int) := by omega
        have hmE : m = K := by omega
        have HE : Hid (Ir wr w'.heap.size (.slice (some ⟨w'.heap.size, 0, none⟩) K K) (List.replicate K R) ∧ Below w'.heap.size w' wr) := by
          refine ⟨?_, HW.out.2⟩
          have h1 := HW.out.1
          rw [hmE] at h1
          have e : rep K K R = List.replicate K R := by simp [rep]
          rw [e] at h1
          unfold Ir
          rw [List.length_replicate]
          exact ⟨by simp [ints], .inr ⟨_, K, _, rfl, Nat.le_refl _, h1, Nat.le_refl _, by unfold maxLen; omega, by simp [ints], by simp [ints]⟩⟩
        clear HW
        go_wp2
        go_ret
        exact ⟨rfl, HE.out.1, HE.out.2⟩
end Go.Proofs.YtoehlgigidgfpaaGreat

namespace Go.Proofs.YtoehlgigidgfpaaGreat
open Go.RowKit Go.Lib Go.Shelf Dr
attribute [local go_sem] Oper.semAt_some
set_option linter.unusedVariables false
set_option maxRecDepth 100000

abbrev nilS : Value := .slice none 0 0

section
variable {w w' : World} {base B : Nat} {T : TypeId} {vals : Array Value} {rows : List Rs}

/-- A new row beside the others. -/
theorem Cl.add (h : Cl w base B T vals rows) (ht : Tn [] w w') {r : Rs} {g : Nat} (ho : w'.ownsRow base r.t r.sz r.v r.n r.xs) (hv : r.v.ownBlock = some g) (hg : w.heap.size ≤ g) : Cl w' base B T vals (rows ++ [r]) := by
  have h' := h.still ht
  have hold : ∀ (i : Nat) q k, rows[i]? = some q → q.v.ownBlock = some k → k < w.heap.size := fun i q k hi hk => ((h.row i q hi).lt k hk).2
  have key : ∀ (i : Nat) q, (rows ++ [r])[i]? = some q → rows[i]? = some q ∨ (i = rows.length ∧ q = r) := by
    intro i q hi
    by_cases hl : i < rows.length
    · rw [List.getElem?_append_left hl] at hi
      exact .inl hi
    · rw [List.getElem?_append_right (by omega)] at hi
      have : i - rows.length < 1 := by have := (List.getElem?_eq_some_iff.1 hi).1; simpa using this
      have h0 : i - rows.length = 0 := by omega
      rw [h0] at hi
      simp at hi
      exact .inr ⟨by omega, hi.symm⟩
  refine ⟨h'.blk, h'.ge, fun i q hi => ?_, fun i q hi => ?_, fun i j q p k hi hj h1 h2 => ?_⟩
  · rcases key i q hi with h1 | ⟨_, rfl⟩
    · exact h'.row i q h1
    · exact ho
  · rcases key i q hi with h1 | ⟨_, rfl⟩
    · exact h'.ne i q h1
    · rw [hv]
      have := h.blk.lt
      intro e
      cases e
      omega
  · rcases key i q hi with a1 | ⟨a1, rfl⟩
    · rcases key j p hj with b1 | ⟨b1, rfl⟩
      · exact h'.apart i j q p k a1 b1 h1 h2
      · have := hold i q k a1 h1
        rw [hv] at h2
        cases h2
        omega
    · rcases key j p hj with b1 | ⟨b1, rfl⟩
      · have := hold j p k b1 h2
        rw [hv] at h1
        cases h1
        omega
      · omega

theorem row_mono {base' : Nat} {e : TypeId} {size n : Nat} {v : Value} {xs : List Value} (h : w.ownsRow base e size v n xs) (hb : base' ≤ base) : w.ownsRow base' e size v n xs := by
  refine ⟨h.1, ?_⟩
  rcases h.2 with h1 | ⟨g, cap, cur, hv, hg, rest⟩
  · exact .inl h1
  · exact .inr ⟨g, cap, cur, hv, by omega, rest⟩

/-- A row of zeros is made. -/
theorem Cl.make (h : Cl w base B T vals rows) (t : TypeId) (ht : Tryz.prog.underlying t = some (.slice 3)) (n : Nat) (hn : n ≤ 35184372088832) :
    ∃ w1, (Instr.makeSlice t (.int .i64 (n : Int)) (.int .i64 (n : Int))).run Tryz.prog w.drew = .ok (.slice (some ⟨w.heap.size, 0, none⟩) n n) w1 ∧ Cl w1 base B T vals (rows ++ [⟨3, 1, sl w.heap.size n n, n, ints (List.replicate n 0)⟩]) ∧ Tn [] w w1 := by
  obtain ⟨w1, hmk, hI, hB⟩ := make_ints t ht n hn w.drew
  have ht1 : Tn [] w w1 := (Tn.drew (Tn.refl [] w)).trans (Tn.of_below hB []) (by simp)
  refine ⟨w1, hmk, ?_, ht1⟩
  refine h.add ht1 (r := ⟨3, 1, sl w.heap.size n n, n, ints (List.replicate n 0)⟩) (g := w.heap.size) ?_ rfl (Nat.le_refl _)
  have h1 := hI
  unfold Ir at h1
  rw [List.length_replicate] at h1
  exact row_mono h1 (by have := h.blk.lt; have := h.ge; show base ≤ w.heap.size; omega)

theorem row_kind {e : TypeId} {size n : Nat} {v : Value} {xs : List Value} (h : w.ownsRow base e size v n xs) {g : Nat} (hg : v.ownBlock = some g) : ∃ o : Obj, w.heap[g]? = some o ∧ o.isCells = true := by
  rcases h.2 with ⟨rfl, _⟩ | ⟨g', cap, cur, rfl, _, hb, _⟩
  · cases hg
  · cases hg
    exact ⟨_, hb, rfl⟩

/-- What is no block of cells may turn. -/
theorem Cl.abides (h : Cl w base B T vals rows) {row : Option Nat} {m : Nat} (hg : w.grownBy w' row) (hr : ∀ r, row = some r → m ≤ r ∧ ∃ o : Obj, w.heap[r]? = some o ∧ o.isCells = false) : Cl w' base B T vals rows := by
  refine ⟨bk_from h.blk hg hr, h.ge, fun i r hi => ?_, h.ne, h.apart⟩
  refine row_tn (h.row i r hi) (tn_grown hg) fun k hk hm => ?_
  obtain ⟨o, ho, hc⟩ := row_kind (h.row i r hi) hk
  have : row = some k := by
    cases row with
    | none => simp at hm
    | some x => simp at hm; rw [hm]
  obtain ⟨_, o', ho', hc'⟩ := hr k this
  rw [ho] at ho'
  cases ho'
  rw [hc] at hc'
  cases hc'
end

theorem bw_idx {l : List En} {pre : List (Nat × En)} {x : Nat × En} (h : pre ++ [x] <+: Pg.bw l) : x.1 + pre.length + 1 = l.length ∧ l[x.1]? = some x.2 := by
  obtain ⟨t, ht⟩ := h
  have hn : pre.length < l.length := by rw [← Pg.bw_len, ← ht]; simp
  have h0 : (Pg.bw l)[pre.length]? = some x := by rw [← ht]; simp
  have hx0 : l[l.length - 1 - pre.length]? = some l[l.length - 1 - pre.length] := List.getElem?_eq_getElem (by omega)
  have h1 := Pg.bw_at (k := l.length - 1 - pre.length) (by omega) hx0
  rw [show l.length - 1 - (l.length - 1 - pre.length) = pre.length by omega, h0] at h1
  cases h1
  exact ⟨by simp only; omega, hx0⟩

def lkVals (vK vR : Value) (gk gn gf R K : Nat) : Array Value := #[vK, vR, .int .i64 0, sl gk R R, sl gn R R, sl gf K K, nilS, nilS, nilS, nilS]
def lkRows (ks : List (List UInt8)) (row : List En) (vK vR : Value) (gk gn gf R K j : Nat) : List Rs := [⟨9, 1, vK, K, ks.map encStr⟩, ⟨33, 4, vR, R, flatE row⟩, ⟨3, 1, sl gk R R, R, ints (ofs (upFrom (knOf ks row) j))⟩, ⟨3, 1, sl gn R R, R, ints (ofs (upFrom (nxOf (knOf ks row)) j))⟩, ⟨3, 1, sl gf K K, K, ints (ofs (fsOf (knOf ks row) K j))⟩]

/-- Between the rounds of link. -/
structure Lnk (w W : World) (base B : Nat) (ks : List (List UInt8)) (row : List En) (vK vR : Value) (gk gn gf R K m j : Nat) : Prop where
  cl : Cl W base B 214 (lkVals vK vR gk gn gf R K) (lkRows ks row vK vR gk gn gf R K j)
  bx : Bk W w.heap.size 193 #[.pointer (some ⟨B, 0, none⟩)]
  below : Tn [B] w W
  sz : m ≤ W.heap.size

theorem Lnk.abides {w W W' : World} {base B : Nat} {ks : List (List UInt8)} {row : List En} {vK vR : Value} {gk gn gf R K m j : Nat} {rw' : Option Nat} {k : Nat} (h : Lnk w W base B ks row vK vR gk gn gf R K m j) (hm : w.heap.size ≤ k) (hg : W.grownBy W' rw') (hr : ∀ r, rw' = some r → k ≤ r ∧ ∃ o : Obj, W.heap[r]? = some o ∧ o.isCells = false) : Lnk w W' base B ks row vK vR gk gn gf R K m j where
  cl := h.cl.abides hg hr
  bx := bk_from h.bx hg hr
  below := h.below.grown hg (fun k hk => .inr (by have := (hr k hk).1; omega))
  sz := Nat.le_trans h.sz hg.size
theorem Lnk.still {w W W' : World} {base B : Nat} {ks : List (List UInt8)} {row : List En} {vK vR : Value} {gk gn gf R K m j : Nat} (h : Lnk w W base B ks row vK vR gk gn gf R K m j) (ht : Tn [] W W') : Lnk w W' base B ks row vK vR gk gn gf R K m j where
  cl := h.cl.still ht
  bx := h.bx.tn ht (by simp)
  below := h.below.trans ht (by simp)
  sz := Nat.le_trans h.sz ht.size

theorem up_all (l : List Nat) (R : Nat) (h : l.length = R) : ofs (upFrom l R) = List.replicate R 0 := by
  unfold upFrom ofs
  rw [List.drop_of_length_le (by omega), List.append_nil, List.map_replicate]
  rfl
theorem fs_all (kn : List Nat) (K R : Nat) (h : kn.length = R) : ofs (fsOf kn K R) = List.replicate K (R : Int) := by
  unfold fsOf ofs
  rw [List.map_map]
  apply List.ext_getElem?
  intro i
  by_cases hi : i < K
  · simp only [List.getElem?_map, List.getElem?_range hi, Option.map_some, List.getElem?_replicate, hi, if_true, Function.comp]
    unfold fsAt
    rw [List.drop_of_length_le (by omega)]
    simp
  · rw [List.getElem?_eq_none (by simp; omega), List.getElem?_eq_none (by simp; omega)]

section
variable {w : World} {base B : Nat} {ks : List (List UInt8)} {row : List En} {vK vR : Value}

set_option maxHeartbeats 8000000 in
theorem link_any {K R : Nat} (h : Cl w base B 214 #[vK, vR, .int .i64 0, nilS, nilS, nilS, nilS, nilS, nilS, nilS] [⟨9, 1, vK, K, ks.map encStr⟩, ⟨33, 4, vR, R, flatE row⟩]) (hK : ks.length = K) (hR : row.length = R) (hrise : Rise ks) (hkw : ∀ e ∈ row, kw ks e.key) (hbK : K ≤ 8796093022207) (hbR : R ≤ 4398046511104) :
    Calls Tryz.prog 151 #[.pointer (some ⟨B, 0, none⟩)] w fun e w' => e = .returned (.tuple #[]) ∧ (∃ gk gn gf, Cl w' base B 214 #[vK, vR, .int .i64 0, sl gk R R, sl gn R R, sl gf K K, nilS, nilS, nilS, nilS] [⟨9, 1, vK, K, ks.map encStr⟩, ⟨33, 4, vR, R, flatE row⟩, ⟨3, 1, sl gk R R, R, ints (ofs (knOf ks row))⟩, ⟨3, 1, sl gn R R, R, ints (ofs (nxOf (knOf ks row)))⟩, ⟨3, 1, sl gf K K, K, ints (ofs (fsOf (knOf ks row) K 0))⟩]) ∧ Tn [B] w w' := by
  obtain ⟨pR, cR, hvR⟩ : ∃ p c, vR = .slice p R c := by
    rcases (h.row 1 _ rfl).2 with ⟨hv, hn⟩ | ⟨g, cap, cur, hv, _⟩
    · exact ⟨none, 0, by simp only at hv hn; rw [hv, hn]⟩
    · exact ⟨_, cap, hv⟩
  obtain ⟨pK, cK, hvK⟩ : ∃ p c, vK = .slice p K c := by
    rcases (h.row 0 _ rfl).2 with ⟨hv, hn⟩ | ⟨g, cap, cur, hv, _⟩
    · exact ⟨none, 0, by simp only at hv hn; rw [hv, hn]⟩
    · exact ⟨_, cap, hv⟩
  have HVR : Hid (vR = .slice pR R cR) := hvR
  have HVK : Hid (vK = .slice pK K cK) := hvK
  have hbz : base ≤ w.heap.size := by have := h.blk.lt; have := h.ge; omega
  have HVB : Hid (∀ b, vR.ownBlock = some b → b < w.heap.size) := fun b hb => ((h.row 1 _ rfl).lt b hb).2
  refine calls_of_wpAt Tryz.func151 rfl ?_
  simp only [Tryz.ntmps151, List.size_toArray, List.length_cons, List.length_nil, Nat.reduceAdd, Nat.reduceSub, Array.replicate_succ, Array.replicate_zero, List.push_toArray, List.append_toArray, List.nil_append, List.cons_append]
  obtain ⟨w0, hw0⟩ : ∃ w0, w0 = w.alloc (.cells #[.pointer (some ⟨B, 0, none⟩)] 193) := ⟨_, rfl⟩
  have ht0 : Tn [] w w0 := by rw [hw0]; exact (Tn.refl [] w).alloc _
  have HP0 : Hid (Bk w0 w.heap.size 193 #[.pointer (some ⟨B, 0, none⟩)]) := by rw [hw0]; exact Bk.new _ _ _
  have HC0 : Hid (Cl w0 base B 214 #[vK, vR, .int .i64 0, nilS, nilS, nilS, nilS, nilS, nilS, nilS] [⟨9, 1, vK, K, ks.map encStr⟩, ⟨33, 4, vR, R, flatE row⟩]) := h.still ht0
  have HBw : Hid (Tn [B] w w0) := ht0.mono (by simp)
  have HPB : Hid (B < w.heap.size) := h.blk.lt
  clear h ht0
  refine wpAt_seq_k fun K2 hK2 => wpAt_of_wp ?_
  go_wp2
  rw [← hw0]
  clear hw0
  refine wpAt_seq_k fun K2 hK2 => wpAt_of_wp ?_
  have p0 : w0.cell? ⟨w.heap.size, 0, none⟩ = some (.pointer (some ⟨B, 0, none⟩)) := HP0.out.cell 0
  have x1 : w0.cell? ⟨B, 1, none⟩ = some (.slice pR R cR) := by rw [← HVR.out]; exact HC0.out.blk.cell 1
  obtain ⟨w1, hmk, hc1, ht1⟩ := HC0.out.make 93 Tryz.underlying93 R (by omega)
  have q0 : w1.cell? ⟨w.heap.size, 0, none⟩ = some (.pointer (some ⟨B, 0, none⟩)) := (HP0.out.tn ht1 (by simp)).cell 0
  have y3 : w1.cell? ⟨B, 3, none⟩ = some nilS := hc1.blk.cell 3
  have f3 : w1.frozen? ⟨B, 3, none⟩ = false := hc1.blk.frozen 3
  have y1 : w1.cell? ⟨B, 1, none⟩ = some (.slice pR R cR) := by rw [← HVR.out]; exact hc1.blk.cell 1
  go_wp2_with fail
  go_region
  obtain ⟨hc2, ht2⟩ := hc1.put 3 (sl w0.heap.size R R)
  have ht12 : Tn [B] w0 (w1.setCell ⟨B, 3, none⟩ (sl w0.heap.size R R)) := (ht1.mono (by simp)).trans ht2 (by simp)
  obtain ⟨gk, hgk⟩ : ∃ gk, gk = w0.heap.size := ⟨_, rfl⟩
  obtain ⟨w2, hw2⟩ : ∃ w2, w2 = w1.setCell ⟨B, 3, none⟩ (sl w0.heap.size R R) := ⟨_, rfl⟩
  rw [← hw2] at hc2 ht12 ⊢
  rw [← hgk] at hc2 ⊢
  have HC2 : Hid (Cl w2 base B 214 #[vK, vR, .int .i64 0, sl gk R R, nilS, nilS, nilS, nilS, nilS, nilS] [⟨9, 1, vK, K, ks.map encStr⟩, ⟨33, 4, vR, R, flatE row⟩, ⟨3, 1, sl gk R R, R, ints (List.replicate R 0)⟩]) := hc2
  have HP2 : Hid (Bk w2 w.heap.size 193 #[.pointer (some ⟨B, 0, none⟩)]) := HP0.out.tn ht12 (by have := HPB.out; simp; omega)
  have HB2 : Hid (Tn [B] w w2) := HBw.out.trans ht12 (fun x hx => .inl hx)
  have HNK : Hid (w.heap.size ≠ gk) := by have := HP0.out.lt; rw [Hid]; omega
  have hgek : w.heap.size ≤ gk := by have := HP0.out.lt; omega
  clear hc1 hc2 ht1 ht2 ht12 hw2 hgk hmk HC0 HP0 HBw p0 x1 q0 y3 f3 y1
  go_wp2
  refine wpAt_seq_k fun K2 hK2 => wpAt_of_wp ?_
  have p0 : w2.cell? ⟨w.heap.size, 0, none⟩ = some (.pointer (some ⟨B, 0, none⟩)) := HP2.out.cell 0
  have x1 : w2.cell? ⟨B, 1, none⟩ = some (.slice pR R cR) := by rw [← HVR.out]; exact HC2.out.blk.cell 1
  obtain ⟨w3, hmk, hc3, ht3⟩ := HC2.out.make 93 Tryz.underlying93 R (by omega)
  have q0 : w3.cell? ⟨w.heap.size, 0, none⟩ = some (.pointer (some ⟨B, 0, none⟩)) := (HP2.out.tn ht3 (by simp)).cell 0
  have y3 : w3.cell? ⟨B, 4, none⟩ = some nilS := hc3.blk.cell 4
  have f3 : w3.frozen? ⟨B, 4, none⟩ = false := hc3.blk.frozen 4
  have y1 : w3.cell? ⟨B, 1, none⟩ = some (.slice pR R cR) := by rw [← HVR.out]; exact hc3.blk.cell 1
  go_wp2_with fail
  go_region
  obtain ⟨hc4, ht4⟩ := hc3.put 4 (sl w2.heap.size R R)
  have ht34 : Tn [B] w2 (w3.setCell ⟨B, 4, none⟩ (sl w2.heap.size R R)) := (ht3.mono (by simp)).trans ht4 (by simp)
  obtain ⟨gn, hgn⟩ : ∃ gn, gn = w2.heap.size := ⟨_, rfl⟩
  obtain ⟨w4, hw4⟩ : ∃ w4, w4 = w3.setCell ⟨B, 4, none⟩ (sl w2.heap.size R R) := ⟨_, rfl⟩
  rw [← hw4] at hc4 ht34 ⊢
  rw [← hgn] at hc4 ⊢
  have HC4 : Hid (Cl w4 base B 214 #[vK, vR, .int .i64 0, sl gk R R, sl gn R R, nilS, nilS, nilS, nilS, nilS] [⟨9, 1, vK, K, ks.map encStr⟩, ⟨33, 4, vR, R, flatE row⟩, ⟨3, 1, sl gk R R, R, ints (List.replicate R 0)⟩, ⟨3, 1, sl gn R R, R, ints (List.replicate R 0)⟩]) := hc4
  have HP4 : Hid (Bk w4 w.heap.size 193 #[.pointer (some ⟨B, 0, none⟩)]) := HP2.out.tn ht34 (by have := HPB.out; simp; omega)
  have HB4 : Hid (Tn [B] w w4) := HB2.out.trans ht34 (fun x hx => .inl hx)
  have HNN : Hid (w.heap.size ≠ gn) := by have := HP2.out.lt; rw [Hid]; omega
  have hgen : w.heap.size ≤ gn := by have := HP2.out.lt; omega
  clear hc3 hc4 ht3 ht4 ht34 hw4 hgn hmk HC2 HP2 HB2 p0 x1 q0 y3 f3 y1
  go_wp2
  refine wpAt_seq_k fun K2 hK2 => wpAt_of_wp ?_
  have p0 : w4.cell? ⟨w.heap.size, 0, none⟩ = some (.pointer (some ⟨B, 0, none⟩)) := HP4.out.cell 0
  have x1 : w4.cell? ⟨B, 1, none⟩ = some (.slice pR R cR) := by rw [← HVR.out]; exact HC4.out.blk.cell 1
  have x0 : w4.cell? ⟨B, 0, none⟩ = some (.slice pK K cK) := by rw [← HVK.out]; exact HC4.out.blk.cell 0
  have hBl : B < w4.heap.size := HC4.out.blk.lt
  have hPl : w.heap.size < w4.heap.size := HP4.out.lt
  have HRP : Hid (∀ w5 w6, w5 = w4.drew.alloc (.cells #[.int .i64 (R : Int)] 3) → Below w5.heap.size w5 w6 → Ir w6 w5.heap.size (.slice (some ⟨w5.heap.size, 0, none⟩) K K) (List.replicate K (R : Int)) → Cl w6 base B 214 #[vK, vR, .int .i64 0, sl gk R R, sl gn R R, nilS, nilS, nilS, nilS, nilS] [⟨9, 1, vK, K, ks.map encStr⟩, ⟨33, 4, vR, R, flatE row⟩, ⟨3, 1, sl gk R R, R, ints (List.replicate R 0)⟩, ⟨3, 1, sl gn R R, R, ints (List.replicate R 0)⟩, ⟨3, 1, sl w5.heap.size K K, K, ints (List.replicate K (R : Int))⟩] ∧ Tn [] w4 w6) := by
    intro w5 w6 h5 hb6 hi6
    have ht5 : Tn [] w4 w5 := by rw [h5]; exact (Tn.drew (Tn.refl [] w4)).alloc _
    have ht6 : Tn [] w4 w6 := ht5.trans (Tn.of_below hb6 []) (by simp)
    refine ⟨HC4.out.add ht6 (r := ⟨3, 1, sl w5.heap.size K K, K, ints (List.replicate K (R : Int))⟩) (g := w5.heap.size) ?_ rfl ht5.size, ht6⟩
    have h1 := hi6
    unfold Ir at h1
    rw [List.length_replicate] at h1
    exact row_mono h1 (by have := HB4.out.size; have := ht5.size; show base ≤ w5.heap.size; omega)
  go_wp2_with fail
  go_region_held3 (fun w' => w'.cell? ⟨w.heap.size, 0, none⟩ = some (.pointer (some ⟨B, 0, none⟩)) ∧ w'.cell? ⟨B, 0, none⟩ = some (.slice pK K cK) ∧ w'.cell? ⟨B, 1, none⟩ = some (.slice pR R cR)) (go_keep) (first | (go_at_call 170; refine (repeat_any _ _ K (R : Int) _ (by simp) hbK).mono ?_; rintro e w6 ⟨rfl, hi6, hb6⟩; have hcl6 := HRP.out _ w6 rfl hb6 hi6; have q0 : w6.cell? ⟨w.heap.size, 0, none⟩ = some (.pointer (some ⟨B, 0, none⟩)) := (HP4.out.tn hcl6.2 (by simp)).cell 0; have q1 : w6.cell? ⟨B, 0, none⟩ = some (.slice pK K cK) := (by (rw [← HVK.out]; exact hcl6.1.blk.cell 0)); have q2 : w6.cell? ⟨B, 1, none⟩ = some (.slice pR R cR) := (by (rw [← HVR.out]; exact hcl6.1.blk.cell 1)); have q5 : w6.cell? ⟨B, 5, none⟩ = some nilS := hcl6.1.blk.cell 5; have f5 : w6.frozen? ⟨B, 5, none⟩ = false := hcl6.1.blk.frozen 5; have r0 : ∀ u, (w6.setCell ⟨B, 5, none⟩ u).cell? ⟨w.heap.size, 0, none⟩ = some (.pointer (some ⟨B, 0, none⟩)) := fun u => ((HP4.out.tn hcl6.2 (by simp)).other (p := ⟨B, 5, none⟩) (by have := HPB.out; simp; omega) u).cell 0; have r1 : ∀ u, (w6.setCell ⟨B, 5, none⟩ u).cell? ⟨B, 0, none⟩ = some (.slice pK K cK) := fun u => (by (rw [← HVK.out]; exact (hcl6.1.blk.set 5 u).cell 0)); have r2 : ∀ u, (w6.setCell ⟨B, 5, none⟩ u).cell? ⟨B, 1, none⟩ = some (.slice pR R cR) := fun u => (by (rw [← HVR.out]; exact (hcl6.1.blk.set 5 u).cell 1))))
  obtain ⟨hc7, ht7⟩ := hcl6.1.put 5 (sl (w4.heap.size + 1) K K)
  have ht67 : Tn [B] w4 (w6.setCell ⟨B, 5, none⟩ (sl (w4.heap.size + 1) K K)) := (hcl6.2.mono (by simp)).trans ht7 (by simp)
  obtain ⟨gf, hgf⟩ : ∃ gf, gf = w4.heap.size + 1 := ⟨_, rfl⟩
  have hgf2 : (w4.drew.alloc (.cells #[.int .i64 (R : Int)] 3)).heap.size = gf := by rw [hgf]; simp
  rw [hgf2] at hc7
  obtain ⟨w7, hw7⟩ : ∃ w7, w7 = w6.setCell ⟨B, 5, none⟩ (sl (w4.heap.size + 1) K K) := ⟨_, rfl⟩
  rw [← hw7] at hc7 ht67 ⊢
  rw [← hgf] at hc7 ⊢
  have hkn := knOf_len ks row
  have HU7 : Hid (Lnk w w7 base B ks row vK vR gk gn gf R K 0 R) := by
    refine ⟨?_, HP4.out.tn ht67 (by have := HPB.out; simp; omega), HB4.out.trans ht67 (fun x hx => .inl hx), Nat.zero_le _⟩
    unfold lkRows
    rw [up_all _ R (by omega), up_all _ R (by simp [nxOf]; omega), fs_all _ K R (by omega)]
    exact hc7
  have HNF : Hid (w.heap.size ≠ gf) := by rw [Hid]; omega
  have HGE : Hid (w.heap.size ≤ gk ∧ w.heap.size ≤ gn ∧ w.heap.size ≤ gf) := ⟨hgek, hgen, by omega⟩
  clear hc7 ht7 ht67 hw7 hgf hgf2 hcl6 hi6 hb6 q0 q1 q2 q5 f5 r0 r1 r2 HRP HC4 HP4 HB4 p0 x1 x0 hBl hPl
  go_wp2
  refine wpAt_seq_k fun K3 hK3 => wpAt_of_wp ?_
  have p0 : w7.cell? ⟨w.heap.size, 0, none⟩ = some (.pointer (some ⟨B, 0, none⟩)) := HU7.out.bx.cell 0
  have x1 : w7.cell? ⟨B, 1, none⟩ = some (.slice pR R cR) := by rw [← HVR.out]; exact HU7.out.cl.blk.cell 1
  go_wp2_with fail
  refine (back_any pR R cR w7).mono ?_
  rintro e w8 ⟨rfl, hw8⟩
  have ht8 : Tn [] w7 w8 := by rw [hw8]; exact (Tn.refl _ _).alloc _
  have hU8 : Lnk w w8 base B ks row vK vR gk gn gf R K w8.heap.size R := { HU7.out.still ht8 with sz := Nat.le_refl _ }
  have hk8 : Bk w8 w7.heap.size 27 #[.slice pR R cR] := by rw [hw8]; exact Bk.new _ _ _
  have hs8 : w7.heap.size < w8.heap.size := hk8.lt
  have hs7 : w.heap.size < w7.heap.size := HU7.out.bx.lt
  have hens : Ens w8 pR row := by
    have h1 : w8.ownsRow base 33 4 vR R (flatE row) := hU8.cl.row 1 _ rfl
    have h2 : OwnE w8 base vR row := by unfold OwnE; rw [hR]; exact h1
    rw [HVR.out] at h2
    obtain ⟨p', c', hv', he', _⟩ := h2.ens
    simp only [Value.slice.injEq] at hv'
    obtain ⟨rfl, _⟩ := hv'
    exact he'
  obtain ⟨S, hSm, hFm⟩ : ∃ S : List Nat, (∀ b ∈ S, b = w7.heap.size ∨ vR.ownBlock = some b) ∧ Fm w8 w7.heap.size S row := by
    rcases Nat.eq_zero_or_pos row.length with h0 | h0
    · exact ⟨[w7.heap.size], by simp, ⟨⟨pR, cR, by rw [hR]; exact hk8, hens, fun h => by omega⟩, by simp, by intro b hb; simp at hb; omega, by omega⟩⟩
    · obtain ⟨g, o, hp, _⟩ := hens h0
      refine ⟨[w7.heap.size, g], fun b hb => ?_, ⟨⟨pR, cR, by rw [hR]; exact hk8, hens, fun _ g' o' h => ?_⟩, by simp, fun b hb => ?_, by omega⟩⟩
      · simp only [List.mem_cons, List.not_mem_nil, or_false] at hb
        rcases hb with rfl | rfl
        · exact .inl rfl
        · right
          rw [HVR.out, hp]; rfl
      · rw [hp] at h
        cases h
        simp
      · simp only [List.mem_cons, List.not_mem_nil, or_false] at hb
        rcases hb with rfl | rfl
        · exact hs8
        · have h1 := ((hU8.cl.row 1 _ rfl).lt b (by show vR.ownBlock = some b; rw [HVR.out, hp]; rfl)).2
          exact h1
  have hseq := backE_stops hFm
  have HSL : Hid (∀ b ∈ S, b ≠ B ∧ b ≠ w.heap.size ∧ b < w8.heap.size ∧ b ≠ gk ∧ b ≠ gn ∧ b ≠ gf) := by
    intro b hb
    have hlt := hFm.lt b hb
    have hBl := hU8.cl.blk.lt
    have hrl : ∀ (i : Nat) r k, (lkRows ks row vK vR gk gn gf R K R)[i]? = some r → r.v.ownBlock = some k → k < w7.heap.size := fun i r k hi hk => ((HU7.out.cl.row i r hi).lt k hk).2
    rcases hSm b hb with rfl | h1
    · have h2 := hrl 2 _ gk rfl rfl
      have h3 := hrl 3 _ gn rfl rfl
      have h4 := hrl 4 _ gf rfl rfl
      have h5 := HU7.out.cl.blk.lt
      omega
    · refine ⟨fun e => hU8.cl.ne 1 _ rfl (by show vR.ownBlock = some B; rw [h1, e]), fun e => ?_, hlt, fun e => ?_, fun e => ?_, fun e => ?_⟩
      · have := HVB.out b h1
        omega
      · have := hU8.cl.apart 1 2 _ _ b rfl rfl h1 (by show some gk = some b; rw [e]); cases this
      · have := hU8.cl.apart 1 3 _ _ b rfl rfl h1 (by show some gn = some b; rw [e]); cases this
      · have := hU8.cl.apart 1 4 _ _ b rfl rfl h1 (by show some gf = some b; rw [e]); cases this
  clear hw8 ht8 hk8 hSm hFm hens p0 x1
  go_wp2
  refine wpAt_block ?_
  refine wpAt_boxed ?A Tryz.func151 (gf := 200) (lb := #[.pointer (some ⟨w7.heap.size, 0, none⟩)]) rfl (enters_of Tryz.func200 (by kernel_rfl) rfl)
    hseq KpP.t (fun W l o o' hl _ _ _ k hk => World.putObj_heap_other (fun e => by
      subst e
      have := (HSL.out _ hk).2.2.1
      omega)) (Below.refl _ _) (fun _ => rfl)
    (fun pre W => Lnk w W base B ks row vK vR gk gn gf R K w8.heap.size (R - pre.length))
    (fun _ _ _ => False)
    (fun _ _ _ => False)
    (fun s A B' row hs hg hr => hs.abides (k := w8.heap.size) (by omega) hg hr)
    (fun cc s A B row hs hg hr => hs.elim)
    hU8
    (fun x bx W => w8.heap.size ≤ bx ∧ Bk W bx 33 #[.string x.2.key, .int .i64 x.2.s, .int .i64 x.2.g, .int .i64 x.2.c])
    (fun x bx _ A B' row hs hg hr => ⟨hs.1, bk_from hs.2 hg hr⟩)
    ?assign ?body ?done (fun D cc pre W _ _ h _ => h.elim) (fun D cc pre W _ _ h _ => h.elim)
  case assign =>
    rintro l pre x W K hL hK
    gi_wp2
    have ht : Tn [] W (W.alloc (.cells #[.string x.2.key, .int .i64 x.2.s, .int .i64 x.2.g, .int .i64 x.2.c] 33)) := (Tn.refl _ _).alloc _
    obtain ⟨bx, hbx⟩ : ∃ bx, W.heap.size = bx := ⟨_, rfl⟩
    have kx : Bk (W.alloc (.cells #[.string x.2.key, .int .i64 x.2.s, .int .i64 x.2.g, .int .i64 x.2.c] 33)) bx 33 #[.string x.2.key, .int .i64 x.2.s, .int .i64 x.2.g, .int .i64 x.2.c] := by rw [← hbx]; exact Bk.new _ _ _
    have hle : w8.heap.size ≤ bx := by have := hL.sz; omega
    have hsl := HSL.out
    rw [hbx]
    refine hK bx _ ((keeps_tn ht (by simp)).from _) (KpP.of_tn ht (fun y hy => ⟨by have := (hsl y hy).2.2.1; omega, by simp⟩)) (hL.still ht) ⟨hle, kx⟩
  case done =>
    rintro D zs W hD rfl hT hK2
    rw [Pg.bw_len, hR, Nat.sub_self] at hT
    have HE : Hid (Lnk w W base B ks row vK vR gk gn gf R K w8.heap.size 0) := hT
    clear hT
    show bodyPostM Fence.wide 9 _ _ _ Exit.normal _ _
    refine ⟨by simp, .inl ⟨_, _, rfl, run_takeDeferred hK2, ?_⟩⟩
    have hg : W.grownBy (W.putObj D (.deferred none)) (some D) := ⟨rfl, rfl, rfl, by simp, fun k _ hk => World.putObj_heap_other (fun e => hk (by rw [e]))⟩
    have hL := HE.out.abides (k := w8.heap.size) (by omega) hg (fun r hr => by cases hr; exact ⟨hD, _, hK2, rfl⟩)
    refine ⟨_, results_none rfl _ _ _, rfl, ⟨gk, gn, gf, ?_⟩, hL.below⟩
    have e1 : ∀ l : List Nat, upFrom l 0 = l := fun l => by simp [upFrom]
    have h1 := hL.cl
    unfold lkRows at h1
    rw [e1, e1] at h1
    exact h1
  case body =>
    rintro l pre x bx W hl2 hT ⟨hbx, kx⟩ hpre
    obtain ⟨hxi, hxr⟩ := bw_idx hpre
    obtain ⟨xi, xe⟩ := x
    simp only at hxi hxr kx
    rw [hR] at hxi
    have hj : R - pre.length = xi + 1 := by omega
    rw [hj] at hT
    have hxR : xi < R := by omega
    have hkwx : kw ks xe.key := hkw xe (List.mem_of_getElem? hxr)
    have hnum : (knOf ks row).getD xi 0 = num ks xe.key := by
      rw [knOf_at (by omega)]
      simp [List.getD, hxr]
    obtain ⟨n, hn⟩ : ∃ n : Nat, num ks xe.key = n := ⟨_, rfl⟩
    have hnK : n < K := by rw [← hn, ← hK]; exact (num_nu hrise).lt _ hkwx
    rw [hn] at hnum
    have HT : Hid (Lnk w W base B ks row vK vR gk gn gf R K w8.heap.size (xi + 1)) := hT
    have HKX : Hid (Bk W bx 33 #[.string xe.key, .int .i64 xe.s, .int .i64 xe.g, .int .i64 xe.c]) := kx
    have p0 : W.cell? ⟨w.heap.size, 0, none⟩ = some (.pointer (some ⟨B, 0, none⟩)) := hT.bx.cell 0
    have e0 : W.cell? ⟨bx, 0, none⟩ = some (.string xe.key) := kx.cell 0
    clear hT kx
    gi_wp2_with fail
    refine ⟨trivial, ?_⟩
    refine (CallsIn.inRound l (callsIn_wide.2 (number_row (HT.out.cl.blk.cell 0) (HT.out.cl.row 0 _ rfl) hK hbK hrise xe.key))).mono ?_
    rintro e W2 ⟨rfl, ht2⟩
    rw [hn]
    have HT2 : Hid (Lnk w W2 base B ks row vK vR gk gn gf R K w8.heap.size (xi + 1)) := HT.out.still ht2
    have hkn2 : (upFrom (knOf ks row) (xi + 1)).length = R := by rw [upFrom_len _ _ (by omega)]; omega
    have kr := HT2.out.cl.row 2 _ rfl
    have kc := row_ints kr xi hxR
    have kf : W2.frozen? ⟨gk, xi, none⟩ = false := World.ownsRow.frozenAt kr xi
    have kst := World.ownsRow.stored kr xi (.int .i64 (n : Int))
    have ht3 := tn_grown kst.2
    have hc3 := HT2.out.cl.turn (i := 2) rfl rfl ht3 kst.1
    obtain ⟨W3, hW3⟩ : ∃ W3, W2.setCell ⟨gk, xi, none⟩ (.int .i64 (n : Int)) = W3 := ⟨_, rfl⟩
    rw [hW3] at ht3 hc3
    have hgkl : gk < W2.heap.size := (kr.lt gk rfl).2
    have p0' : W2.cell? ⟨w.heap.size, 0, none⟩ = some (.pointer (some ⟨B, 0, none⟩)) := HT2.out.bx.cell 0
    have y3 : W2.cell? ⟨B, 3, none⟩ = some (sl gk R R) := HT2.out.cl.blk.cell 3
    have ai : (xi : Int) < (R : Int) := by omega
    have a0 : (0 : Int) ≤ (xi : Int) := by omega
    have ni : (n : Int) < (K : Int) := by omega
    have n0 : (0 : Int) ≤ (n : Int) := by omega
    clear p0 e0
    -- next[at] = first[n]
    have hb3 : Bk W3 w.heap.size 193 #[.pointer (some ⟨B, 0, none⟩)] := HT2.out.bx.tn ht3 (by have := HNK.out; simp; exact this)
    have p1 : W3.cell? ⟨w.heap.size, 0, none⟩ = some (.pointer (some ⟨B, 0, none⟩)) := hb3.cell 0
    have z4 : W3.cell? ⟨B, 4, none⟩ = some (sl gn R R) := hc3.blk.cell 4
    have z5 : W3.cell? ⟨B, 5, none⟩ = some (sl gf K K) := hc3.blk.cell 5
    have nr := hc3.row 3 _ rfl
    have fr := hc3.row 4 _ rfl
    have fc : W3.cell? ⟨gf, n, none⟩ = some (.int .i64 ((fsAt (knOf ks row) (xi + 1) n : Nat) : Int)) := by
      rw [row_ints fr n hnK, ofs_at, fsOf_at hnK]
    have nc := row_ints nr xi hxR
    have nf : W3.frozen? ⟨gn, xi, none⟩ = false := World.ownsRow.frozenAt nr xi
    obtain ⟨fv, hfv⟩ : ∃ fv : Nat, fsAt (knOf ks row) (xi + 1) n = fv := ⟨_, rfl⟩
    rw [hfv] at fc
    have nst := World.ownsRow.stored nr xi (.int .i64 (fv : Int))
    have ht4 := tn_grown nst.2
    have hc4 := hc3.turn (i := 3) rfl rfl ht4 nst.1
    have hb4 := hb3.tn ht4 (by have := HNN.out; simp; exact this)
    obtain ⟨W4, hW4⟩ : ∃ W4, W3.setCell ⟨gn, xi, none⟩ (.int .i64 (fv : Int)) = W4 := ⟨_, rfl⟩
    rw [hW4] at ht4 hc4 hb4
    -- first[n] = at
    have hc4d := hc4.still (Tn.drew (Tn.refl [] W4))
    have hb4d := hb4.tn (Tn.drew (Tn.refl [] W4)) (by simp)
    have p2 : W4.cell? ⟨w.heap.size, 0, none⟩ = some (.pointer (some ⟨B, 0, none⟩)) := hb4.cell 0
    have u5 : W4.cell? ⟨B, 5, none⟩ = some (sl gf K K) := hc4.blk.cell 5
    have fr4 := hc4.row 4 _ rfl
    have fc4 := row_ints fr4 n hnK
    have ff4 : W4.frozen? ⟨gf, n, none⟩ = false := World.ownsRow.frozenAt fr4 n
    have fst := World.ownsRow.stored (hc4d.row 4 _ rfl) n (.int .i64 (xi : Int))
    have ht5 := tn_grown fst.2
    have hc5 := hc4d.turn (i := 4) rfl rfl ht5 fst.1
    have hb5 := hb4d.tn ht5 (by have := HNF.out; simp; exact this)
    have HE : Hid (Lnk w (W4.drew.setCell ⟨gf, n, none⟩ (.int .i64 (xi : Int))) base B ks row vK vR gk gn gf R K w8.heap.size xi ∧ Tn [gk, gn, gf] W (W4.drew.setCell ⟨gf, n, none⟩ (.int .i64 (xi : Int)))) := by
      have htt : Tn [gk, gn, gf] W (W4.drew.setCell ⟨gf, n, none⟩ (.int .i64 (xi : Int))) := by
        refine Tn.trans (ht2.mono (by simp)) (T := [gk, gn, gf]) ?_ (fun x hx => .inl hx)
        refine Tn.trans (ht3.mono (by simp)) (T := [gk, gn, gf]) ?_ (fun x hx => .inl hx)
        refine Tn.trans (ht4.mono (by simp)) (T := [gk, gn, gf]) ?_ (fun x hx => .inl hx)
        refine Tn.trans (Tn.drew (Tn.refl [] W4) |>.mono (by simp)) (T := [gk, gn, gf]) ?_ (fun x hx => .inl hx)
        exact ht5.mono (by simp)
      refine ⟨⟨?_, hb5, HT.out.below.trans htt ?_, Nat.le_trans HT.out.sz htt.size⟩, htt⟩
      · have e1 : ints (ofs (upFrom (knOf ks row) xi)) = (ints (ofs (upFrom (knOf ks row) (xi + 1)))).set xi (.int .i64 (n : Int)) := by
          rw [← upFrom_step (by omega), hnum, ofs_set]; simp [ints, List.map_set]
        have e2 : ints (ofs (upFrom (nxOf (knOf ks row)) xi)) = (ints (ofs (upFrom (nxOf (knOf ks row)) (xi + 1)))).set xi (.int .i64 (fv : Int)) := by
          have hl : xi < (nxOf (knOf ks row)).length := by simp [nxOf]; omega
          rw [← upFrom_step hl, nxOf_at (by omega), hnum, hfv, ofs_set]; simp [ints, List.map_set]
        have e3 : ints (ofs (fsOf (knOf ks row) K xi)) = (ints (ofs (fsOf (knOf ks row) K (xi + 1)))).set n (.int .i64 (xi : Int)) := by
          have := fsOf_step (kn := knOf ks row) (K := K) (j := xi) (by omega) (by rw [hnum]; exact hnK)
          rw [hnum] at this
          rw [← this, ofs_set]; simp [ints, List.map_set]
        unfold lkRows
        rw [e1, e2, e3]
        exact hc5
      · intro x hx
        simp only [List.mem_cons, List.not_mem_nil, or_false] at hx
        have h1 := HGE.out
        rcases hx with rfl | rfl | rfl
        · exact .inr (by omega)
        · exact .inr (by omega)
        · exact .inr (by omega)
    have HCK : Hid (∀ y ∈ [gk, gn, gf], ∃ o : Obj, W.heap[y]? = some o ∧ o.isCells = true) := by
      intro y hy
      simp only [List.mem_cons, List.not_mem_nil, or_false] at hy
      rcases hy with rfl | rfl | rfl
      · exact row_kind (HT.out.cl.row 2 _ rfl) rfl
      · exact row_kind (HT.out.cl.row 3 _ rfl) rfl
      · exact row_kind (HT.out.cl.row 4 _ rfl) rfl
    have HSZ : Hid (∀ y ∈ S, y < W.heap.size) := fun y hy => by have := (HSL.out y hy).2.2.1; have := HT.out.sz; omega
    generalize Pk.at' (ofs (upFrom (knOf ks row) (xi + 1))) xi = o1 at *
    generalize Pk.at' (ofs (upFrom (nxOf (knOf ks row)) (xi + 1))) xi = o2 at *
    generalize Pk.at' (ofs (fsOf (knOf ks row) K (xi + 1))) n = o3 at *
    clear hc3 hc4 hc5 hc4d hb3 hb4 hb4d hb5 ht3 ht4 ht5 kst nst fst kr nr fr fr4 hfv hkn2
    gi_wp2_with fail
    refine stt_region 12 (by kernel_rfl) (by kernel_rfl) (by rfl) ?_
    simp only [List.take_succ_cons, List.take_zero, List.drop_succ_cons, List.drop_zero]
    repeat still_step
    refine wpStill_nil ?_
    gi_wp2
    refine ⟨(keeps_tn HE.out.2 HCK.out).from _, KpP.of_tn HE.out.2 (fun y hy => ⟨HSZ.out y hy, ?_⟩), ?_⟩
    · have := HSL.out y hy
      simp only [List.mem_cons, List.not_mem_nil, or_false]
      omega
    · have e : R - (pre ++ [(xi, xe)]).length = xi := by simp; omega
      show Lnk w _ base B ks row vK vR gk gn gf R K w8.heap.size (R - (pre ++ [(xi, xe)]).length)
      rw [e]
      exact HE.out.1
end
end Go.Proofs.YtoehlgigidgfpaaGreat
