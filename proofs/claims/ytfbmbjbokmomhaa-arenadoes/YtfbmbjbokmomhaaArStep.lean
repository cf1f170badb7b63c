/- 'append' as one step of a region that draws its order; New of what may not be. -/
import Derived.Test.YtfbmbjbokmomhaaArStM
import Derived.Deep.RegionHeldLaw
import Derived.Deep.RegionHeld3
import Derived.Deep.RegionLaw
namespace Go.Proofs.Ytfbmbjbokmomhaa
open Go.RowKit
set_option linter.unusedVariables false
set_option maxRecDepth 100000

theorem stepX {ops : Array Oper} {o : Oper} {a : Act} {w : World} {K : Act → World → Prop} {Q : Exit → Act → World → Prop} {E : Prop}
    (hg : o.guard = none) (s x : Operand) (t : TypeId) (ho : o.op = .call { callee := .builtin .append, args := #[s, x], argTypes := #[t, t] })
    (e : TypeId) (z : Value) (size bytes : Nat) (ht : Try.prog.underlying t = some (.slice e)) (hinfo : (Try.prog.info? e).map (fun i => (i.zero, i.size, i.bytes)) = some (some z, size, bytes)) (hzs : z.cells.size = size) (hsz : 0 < size)
    (v : Value) (n : Nat) (xs : List Value) (hs : a.eval s = v) (hown : w.ownsRow 0 e size v n xs)
    (ad : Addr) (m c : Nat) (news : List Value) (hx : a.eval x = .slice (some ad) m c) (hl : news.length = m * size) (hnews : ∀ j u, news[j]? = some u → w.cell? (ad.add j) = some u) (h1 : ∀ u ∈ news, u.oneCell' = true)
    (h63 : n + m ≤ maxLen) (hbytes : (n + m) * bytes ≤ 140737488355328)
    (hK : ∀ v' w', w'.ownsRow 0 e size v' (n + m) (xs ++ news) → w.grownBy w' v.ownBlock → (v'.ownBlock = v.ownBlock ∨ v'.ownBlock = some w.heap.size) → K (a.put o.dst v') w') :
    if Region.wanted o (yielded ops a.tmps) = true then Oper.wp Try.prog o a w K Q else E := by
  obtain ⟨i0, hi, hz0, hz1, hz2⟩ := info_parts hinfo
  have hw : Region.wanted o (yielded ops a.tmps) = true := by simp [Region.wanted, hg]
  rw [if_pos hw]
  obtain ⟨v', w', hr, h2, h3, h4, h5⟩ := run_append_own_at (P := Try.prog) w 0 t o.type e i0 z size bytes ht hi hz0 hz1 hz2 hzs hsz v n xs hown ad m c news hl hnews h1 h63 hbytes (Nat.zero_le _)
  unfold Oper.wp execOp
  simp only [ho, resolve, invoke, builtin, Sem.run_bind, Sem.run_pure, Result.andThen_ok, List.map_toArray, List.map_cons, List.map_nil, hs, hx, hr]
  exact hK v' w' h2 h3 h5

theorem newBadS (w : World) (n : Int) (h : n < 1 ∨ 65536 < n) : Calls Try.prog 7 #[.int .i64 n] w fun e w' => e = .returned (.tuple #[.pointer none, .int .i64 1]) ∧ w' = w := by
  by_cases h1 : n < 1
  · go_enter Try.func7, Try.ntmps7
    go_wp2
    go_ret2
    exact ⟨rfl, rfl⟩
  · have h2 : 65536 < n := by omega
    go_enter Try.func7, Try.ntmps7
    go_wp2
    go_ret2
    exact ⟨rfl, rfl⟩

/-- A row's end is not behind its beginning: what an append leaves. -/
theorem Nw.of {w W : World} {v v' : Value} (ht : w.heap.size ≤ W.heap.size) (hb : v'.ownBlock = v.ownBlock ∨ v'.ownBlock = some W.heap.size) : Nw w v v' := by
  intro k hk
  rcases hb with hb | hb
  · exact .inl (by rw [← hb]; exact hk)
  · rw [hb] at hk
    cases hk
    exact .inr ht

theorem news_bk {W : World} {b : Nat} {t : TypeId} {cs : List Value} (h : Bk W b t cs.toArray) : ∀ j u, cs[j]? = some u → W.cell? ((⟨b, 0, none⟩ : Addr).add j) = some u := by
  intro j u hu
  rw [show (⟨b, 0, none⟩ : Addr).add j = ⟨b, j, none⟩ by unfold Addr.add; split <;> simp_all]
  rw [h.cell j]
  simpa using hu

theorem bk_new2 (w : World) (o : Obj) (t : TypeId) (cs : Array Value) : Bk ((w.alloc o).alloc (.cells cs t)) (w.heap.size + 1) t cs := by
  have := Bk.new (w.alloc o) t cs
  simpa using this

theorem bk_grown {W w' : World} {b : Nat} {t : TypeId} {cs : Array Value} {row : Option Nat} (h : Bk W b t cs) (hg : W.grownBy w' row) (hne : row ≠ some b) : Bk w' b t cs := (hg.block b h.lt (fun e => hne e.symm)).trans h

theorem tnB {w5 W w6 : World} {row : Option Nat} (g : W.grownBy w6 row) (h : Tn [] w5 W) : Tn [] w5 W := h
theorem tnG {w5 W w6 : World} {row : Option Nat} {S : List Nat} (g : W.grownBy w6 row) (h : Tn S w5 W) (hr : ∀ k, row = some k → k ∈ S) : Tn S w5 w6 := h.grown g (fun k hk => .inl (hr k hk))

/-- A handle and a text are appended. -/
theorem Sm.put2 {w w5 W w6 W2 w7 : World} {B nL : Nat} {a : Ar} {gv lv sv v1 v2 : Value} {L : List (Int × Int)} {H : List ByteArray} {G : List (Int × Int)} {s g : Int} {x : ByteArray} (h : Sm w w5 B a gv lv sv L H G) (hnL : L.length = nL) (hnH : H.length = nL)
    (hW : Tn [] w5 W) (r1 : w6.ownsRow 0 36 2 v1 (nL + 1) (hCells L ++ [.int .i64 s, .int .i64 g])) (g1 : W.grownBy w6 lv.ownBlock) (b1 : v1.ownBlock = lv.ownBlock ∨ v1.ownBlock = some W.heap.size)
    (hW2 : Tn [] w6 W2) (r2 : w7.ownsRow 0 9 1 v2 (nL + 1) (H.map Value.string ++ [.string x])) (g2 : W2.grownBy w7 sv.ownBlock) (b2 : v2.ownBlock = sv.ownBlock ∨ v2.ownBlock = some W2.heap.size) :
    Sm w w7 B a gv v1 v2 (L ++ [(s, g)]) (H ++ [x]) G := by
  have t1 : Tn lv.ownBlock.toList w5 w6 := (hW.mono (by simp)).grown g1 (fun k hk => .inl (opt_toList.2 hk))
  have t2 : Tn sv.ownBlock.toList w6 w7 := (hW2.mono (by simp)).grown g2 (fun k hk => .inl (opt_toList.2 hk))
  have hlt1 := row_block r1
  have hs1 := hW.size
  have hs2 := hW2.size
  have hs3 := t1.size
  have n1 : Nw w5 lv v1 := Nw.of hs1 b1
  have n2 : Nw w5 sv v2 := Nw.of (by omega) b2
  have hne : ∀ k, v1.ownBlock = some k → sv.ownBlock ≠ some k := by
    intro k hk e
    rcases n1 k hk with h1 | h1
    · exact h.ls k h1 e
    · have := h.sr.lt k e
      omega
  refine h.turnLS ?_ ?_ ?_ n1 n2 ?_
  · unfold Hr
    rw [hCells_append, List.length_append, hnL]
    exact owns_tn r1 t2 (fun k hk hm => hne k hk (opt_toList.1 hm))
  · unfold Sr
    rw [List.map_append, List.length_append, hnH]
    exact r2
  · refine (t1.mono (fun x hx => List.mem_append.2 (.inl hx))).trans t2 (fun x hx => .inl (List.mem_append.2 (.inr hx)))
  · intro k hk e
    rcases b2 with b2 | b2
    · rw [b2] at e
      exact hne k hk e
    · rw [b2] at e
      cases e
      have := hlt1 _ hk
      omega

/-- A text is another one. -/
theorem Sm.put1 {w wr : World} {B gh nL sc : Nat} {a : Ar} {gv lv : Value} {L : List (Int × Int)} {H : List ByteArray} {G : List (Int × Int)} (h : Sm w wr B a gv lv (.slice (some ⟨gh, 0, none⟩) nL sc) L H G) (hn : H.length = nL) (k : Nat) (x : ByteArray) :
    Sm w (wr.setCell ⟨gh, k, none⟩ (.string x)) B a gv lv (.slice (some ⟨gh, 0, none⟩) nL sc) L (H.set k x) G := by
  obtain ⟨h1, h2⟩ := Sr.set hn h.sr k x
  refine h.turnLS (h.lr.tn h2 (fun k hk hm => ?_)) h1 (h2.mono (fun x hx => ?_)) (Nw.refl _ _) (Nw.refl _ _) h.ls
  · simp at hm
    subst hm
    exact h.ls k hk rfl
  · simp at hx
    subst hx
    exact List.mem_append.2 (.inr (opt_toList.2 rfl))

theorem hrAt {w : World} {g c n : Nat} {l : List (Int × Int)} (hn : l.length = n) (h : Hr w (.slice (some ⟨g, 0, none⟩) n c) l) (i : Nat) (hi : i < n) : w.cell? ⟨g, i * 2, none⟩ = some (.int .i64 (hAt l i).1) ∧ w.cell? ⟨g, i * 2 + 1, none⟩ = some (.int .i64 (hAt l i).2) := Hr.cell hn h i hi

theorem hCells_take (L : List (Int × Int)) (k : Nat) : hCells (L.take k) = (hCells L).take (k * 2) := by
  induction L generalizing k with
  | nil => simp [hCells]
  | cons h L ih =>
    cases k with
    | zero => simp [hCells]
    | succ k =>
      have e1 : hCells (h :: L) = .int .i64 h.1 :: .int .i64 h.2 :: hCells L := rfl
      have e2 : hCells ((h :: L).take (k + 1)) = .int .i64 h.1 :: .int .i64 h.2 :: hCells (L.take k) := rfl
      rw [e1, e2, ih k, show (k + 1) * 2 = k * 2 + 1 + 1 by omega, List.take_succ_cons, List.take_succ_cons]

theorem hCells_drop (L : List (Int × Int)) (k : Nat) : hCells (L.drop k) = (hCells L).drop (k * 2) := by
  induction L generalizing k with
  | nil => simp [hCells]
  | cons h L ih =>
    cases k with
    | zero => simp
    | succ k =>
      have e1 : hCells (h :: L) = .int .i64 h.1 :: .int .i64 h.2 :: hCells L := rfl
      rw [List.drop_succ_cons, ih k, e1, show (k + 1) * 2 = k * 2 + 1 + 1 by omega, List.drop_succ_cons, List.drop_succ_cons]

/-- A part of a row, as what is appended. -/
theorem news_part {W : World} {g c n size : Nat} {e : TypeId} {xs ys : List Value} (h : W.ownsRow 0 e size (.slice (some ⟨g, 0, none⟩) n c) n xs) (o m : Nat) (hm : o + m ≤ n * size) (hy : ys = (xs.drop o).take m) : ∀ j u, ys[j]? = some u → W.cell? ((⟨g, o, none⟩ : Addr).add j) = some u := by
  intro j u hu
  subst hy
  rw [show (⟨g, o, none⟩ : Addr).add j = ⟨g, o + j, none⟩ by unfold Addr.add; split <;> simp_all]
  rw [List.getElem?_take] at hu
  split at hu
  · rw [List.getElem?_drop] at hu
    rw [World.ownsRow.cellAt h (o + j) (by omega)]
    exact hu
  · cases hu

theorem hcells_one (L : List (Int × Int)) : ∀ u ∈ hCells L, u.oneCell' = true := by
  intro u hu
  simp only [hCells, List.mem_flatten, List.mem_map] at hu
  obtain ⟨l, ⟨h, _, rfl⟩, hu⟩ := hu
  exact hone _ _ u hu

theorem strs_one (H : List ByteArray) : ∀ u ∈ H.map Value.string, u.oneCell' = true := by
  intro u hu
  obtain ⟨x, _, rfl⟩ := List.mem_map.1 hu
  rfl

/-- The handles and the texts without one of them, in rows of their own. -/
theorem Sm.cutLS {w w5 W1 w6 W2 w7 W3 w8 W4 w9 : World} {B nL k : Nat} {a : Ar} {gv lv sv v1 v2 v3 v4 : Value} {L : List (Int × Int)} {H : List ByteArray} {G : List (Int × Int)} (h : Sm w w5 B a gv lv sv L H G) (hk : k < nL) (hnL : L.length = nL) (hnH : H.length = nL)
    (t1 : Tn [] w5 W1) (g1 : W1.grownBy w6 none) (b1 : v1.ownBlock = none ∨ v1.ownBlock = some W1.heap.size) (r1 : w6.ownsRow 0 36 2 v1 (0 + k) ([] ++ hCells (L.take k)))
    (t2 : Tn [] w6 W2) (g2 : W2.grownBy w7 v1.ownBlock) (b2 : v2.ownBlock = v1.ownBlock ∨ v2.ownBlock = some W2.heap.size) (r2 : w7.ownsRow 0 36 2 v2 (0 + k + (nL - (k + 1))) ([] ++ hCells (L.take k) ++ hCells (L.drop (k + 1))))
    (t3 : Tn [] w7 W3) (g3 : W3.grownBy w8 none) (b3 : v3.ownBlock = none ∨ v3.ownBlock = some W3.heap.size) (r3 : w8.ownsRow 0 9 1 v3 (0 + k) ([] ++ (H.take k).map Value.string))
    (t4 : Tn [] w8 W4) (g4 : W4.grownBy w9 v3.ownBlock) (b4 : v4.ownBlock = v3.ownBlock ∨ v4.ownBlock = some W4.heap.size) (r4 : w9.ownsRow 0 9 1 v4 (0 + k + (nL - (k + 1))) ([] ++ (H.take k).map Value.string ++ (H.drop (k + 1)).map Value.string)) :
    Sm w w9 B a gv v2 v4 (cut L k) (cut H k) G := by
  have s1 := t1.size
  have s2 := t2.size
  have s3 := t3.size
  have s4 := t4.size
  have u1 : Tn [] w5 w6 := t1.grown g1 (fun k hk => by cases hk)
  have l1 := row_block r1
  have l2 := row_block r2
  have l3 := row_block r3
  have z1 := u1.size
  have n1 : ∀ q, v1.ownBlock = some q → w5.heap.size ≤ q := by
    intro q hq
    rcases b1 with b | b
    · rw [b] at hq; cases hq
    · rw [b] at hq; cases hq; omega
  have u2 : Tn [] w5 w7 := (u1.trans t2 (by simp)).grown g2 (fun q hq => .inr (n1 q hq))
  have z2 := u2.size
  have z27 : w6.heap.size ≤ w7.heap.size := Nat.le_trans s2 g2.size
  have n2 : ∀ q, v2.ownBlock = some q → w5.heap.size ≤ q := by
    intro q hq
    rcases b2 with b | b
    · rw [b] at hq; exact n1 q hq
    · rw [b] at hq; cases hq; omega
  have u3 : Tn [] w5 w8 := (u2.trans t3 (by simp)).grown g3 (fun k hk => by cases hk)
  have n3 : ∀ q, v3.ownBlock = some q → w7.heap.size ≤ q := by
    intro q hq
    rcases b3 with b | b
    · rw [b] at hq; cases hq
    · rw [b] at hq; cases hq; omega
  have z38 : w7.heap.size ≤ w8.heap.size := Nat.le_trans s3 g3.size
  have u4 : Tn [] w5 w9 := (u3.trans t4 (by simp)).grown g4 (fun q hq => .inr (by have := n3 q hq; omega))
  have n4 : ∀ q, v4.ownBlock = some q → w7.heap.size ≤ q := by
    intro q hq
    rcases b4 with b | b
    · rw [b] at hq; exact n3 q hq
    · rw [b] at hq; cases hq; omega
  have e7 : Tn [] w7 w8 := (t3.grown g3 (fun k hk => by cases hk))
  have e9 : Tn v3.ownBlock.toList w8 w9 := (t4.mono (by simp)).grown g4 (fun q hq => .inl (opt_toList.2 hq))
  refine h.turnLS ?_ ?_ (u4.mono (by simp)) (fun q hq => .inr (n2 q hq)) (fun q hq => .inr (by have := n4 q hq; omega)) ?_
  · have hr := (owns_tn (owns_tn r2 e7 (by simp)) e9 (fun q hq hm => by have h1 := n3 q (opt_toList.1 hm); have h2 := l2 q hq; omega))
    unfold Hr cut
    rw [hCells_append, List.length_append, List.length_take, List.length_drop, hnL, Nat.min_eq_left (by omega)]
    simpa using hr
  · unfold Sr cut
    rw [List.map_append, List.length_append, List.length_take, List.length_drop, hnH, Nat.min_eq_left (by omega)]
    simpa using r4
  · intro q hq e
    have h1 := n4 q e
    have h2 := l2 q hq
    omega

theorem tnH {w5 W w6 : World} {row : Option Nat} (g : W.grownBy w6 row) (h : Tn [] w5 W) (hr : ∀ q, row = some q → w5.heap.size ≤ q) : Tn [] w5 w6 := h.grown g (fun k hk => .inr (hr k hk))

theorem newer {w5 W : World} {v : Value} (h : Tn [] w5 W) (hb : v.ownBlock = none ∨ v.ownBlock = some W.heap.size) : ∀ q, v.ownBlock = some q → w5.heap.size ≤ q := by
  intro q hq
  rcases hb with b | b
  · rw [b] at hq
    cases hq
  · rw [b] at hq
    cases hq
    exact h.size

theorem row_cap {w : World} {base size n g c : Nat} {e : TypeId} {xs : List Value} (h : w.ownsRow base e size (.slice (some ⟨g, 0, none⟩) n c) n xs) : n ≤ c ∧ c ≤ 9223372036854775807 := by
  rcases h.2 with ⟨hv, _⟩ | ⟨g', cap, cur, hv, _, _, h1, h2, _⟩
  · cases hv
  · cases hv
    unfold maxLen at h2
    exact ⟨h1, by omega⟩

end Go.Proofs.Ytfbmbjbokmomhaa
