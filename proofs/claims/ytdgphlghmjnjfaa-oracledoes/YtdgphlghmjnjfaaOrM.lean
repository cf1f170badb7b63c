/- An oracle: as plain data, and in memory. -/
import Derived.Test.YtdgphlghmjnjfaaMpL
import Derived.Test.YtdgphlghmjnjfaaAtM
namespace Go.Proofs.Ytdgphlghmjnjfaa
open Go.RowKit Go.Maps
set_option linter.unusedVariables false
set_option maxRecDepth 100000

/-- An oracle: the last timestamp, the one up to which all are published, those that wait, and of each session one more than its snapshot (0: none). -/
structure Or where
  last : Nat
  pub : Nat
  ah : Nat → Option Unit
  views : List Nat

/-- What holds of one, always. -/
structure Or.Ok0 (o : Or) : Prop where
  le : o.pub ≤ o.last
  max : o.last ≤ 1099511627776
  ah : ∀ i, (o.ah i).isSome = true → o.pub < i ∧ i ≤ o.last
  v17 : o.views.length = 17
  vle : ∀ v ∈ o.views, v ≤ o.pub + 1

/-- And between the calls. -/
structure Or.Ok (o : Or) : Prop extends Or.Ok0 o where
  gap : o.ah (o.pub + 1) = none

def uElem : Value → Option (DataW Unit × List MemPlace)
  | .agg cs => match cs.toList with
    | [] => some (.held (), [])
    | _ => none
  | _ => none
abbrev uv (_ : Unit) : Value := .agg #[]
theorem uReads : Reads uElem uv where
  can := fun x => rfl
  inv := fun v z h => by
    unfold uElem at h
    split at h
    · rename_i cs
      split at h
      · rename_i hcs
        cases h
        refine ⟨(), ?_, rfl⟩
        obtain ⟨l⟩ := cs
        simp only at hcs
        rw [hcs]
      · cases h
    · cases h
theorem uZero (w : World) : (zeroValue 53).run Try.prog w = .ok (uv ()) w := by kernel_rfl

def orCells (last pub M : Nat) (views : List Nat) : Array Value := ((.int .i64 (last : Int)) :: (.int .i64 (pub : Int)) :: (.map (some M)) :: views.map (fun (p : Nat) => Value.int .i64 (p : Int))).toArray

section
variable {last pub M x s : Nat} {views : List Nat}
theorem orCells_last : (orCells last pub M views)[0]? = some (.int .i64 (last : Int)) := by simp [orCells]
theorem orCells_pub : (orCells last pub M views)[1]? = some (.int .i64 (pub : Int)) := by simp [orCells]
theorem orCells_map : (orCells last pub M views)[2]? = some (.map (some M)) := by simp [orCells]
theorem orCells_view (hs : s < views.length) : (orCells last pub M views)[3 + s]? = some (.int .i64 ((views.getD s 0 : Nat) : Int)) := by
  have e : 3 + s = s + 1 + 1 + 1 := by omega
  simp [orCells, e, hs]
theorem orCells_setLast : (orCells last pub M views).setIfInBounds 0 (.int .i64 (x : Int)) = orCells x pub M views := by simp [orCells]
theorem orCells_setPub : (orCells last pub M views).setIfInBounds 1 (.int .i64 (x : Int)) = orCells last x M views := by simp [orCells]
theorem orCells_setView : (orCells last pub M views).setIfInBounds (3 + s) (.int .i64 (x : Int)) = orCells last pub M (views.set s x) := by
  have e : 3 + s = s + 1 + 1 + 1 := by omega
  unfold orCells
  apply Array.ext'
  simp [e, List.map_set]
end

/-- Where keys lie below. -/
abbrev NN : Nat := 2199023255552

/-- It lies in memory: its block B, its map M. -/
structure IsOr (w : World) (B M : Nat) (o : Or) : Prop where
  blk : Bk w B 61 (orCells o.last o.pub M o.views)
  mp : Mp uElem w M NN o.ah

section
variable {w w' : World} {B M : Nat} {o : Or}
theorem IsOr.ne (h : IsOr w B M o) : B ≠ M := by
  rintro rfl
  obtain ⟨es, clock, hb⟩ := h.mp.block
  have := h.blk
  rw [Bk, hb] at this
  cases this
theorem IsOr.ltB (h : IsOr w B M o) : B < w.heap.size := h.blk.lt
theorem IsOr.ltM (h : IsOr w B M o) : M < w.heap.size := h.mp.lt
theorem IsOr.tn {S : List Nat} (h : IsOr w B M o) (ht : Tn S w w') (hB : B ∉ S) (hM : M ∉ S) : IsOr w' B M o := ⟨h.blk.tn ht hB, h.mp.tn ht hM⟩
theorem IsOr.below (h : IsOr w B M o) (hb : Below w.heap.size w w') : IsOr w' B M o := h.tn (Tn.of_below hb []) (by simp) (by simp)
theorem IsOr.c0 (h : IsOr w B M o) : w.cell? ⟨B, 0, none⟩ = some (.int .i64 (o.last : Int)) := (h.blk.cell 0).trans orCells_last
theorem IsOr.c1 (h : IsOr w B M o) : w.cell? ⟨B, 1, none⟩ = some (.int .i64 (o.pub : Int)) := (h.blk.cell 1).trans orCells_pub
theorem IsOr.c2 (h : IsOr w B M o) : w.cell? ⟨B, 2, none⟩ = some (.map (some M)) := (h.blk.cell 2).trans orCells_map
theorem IsOr.cv (h : IsOr w B M o) (s : Nat) (hs : s < o.views.length) : w.cell? ⟨B, 3 + s, none⟩ = some (.int .i64 ((o.views.getD s 0 : Nat) : Int)) := (h.blk.cell _).trans (orCells_view hs)
theorem IsOr.setLast (h : IsOr w B M o) (x : Nat) : IsOr (w.setCell ⟨B, 0, none⟩ (.int .i64 (x : Int))) B M { o with last := x } :=
  ⟨by have := h.blk.set 0 (.int .i64 (x : Int)); rwa [orCells_setLast] at this, h.mp.tn ((Tn.refl [B] w).setCell (.inl (by simp)) _) (by simpa using h.ne.symm)⟩
theorem IsOr.setPub (h : IsOr w B M o) (x : Nat) : IsOr (w.setCell ⟨B, 1, none⟩ (.int .i64 (x : Int))) B M { o with pub := x } :=
  ⟨by have := h.blk.set 1 (.int .i64 (x : Int)); rwa [orCells_setPub] at this, h.mp.tn ((Tn.refl [B] w).setCell (.inl (by simp)) _) (by simpa using h.ne.symm)⟩
theorem IsOr.setView (h : IsOr w B M o) (s x : Nat) : IsOr (w.setCell ⟨B, 3 + s, none⟩ (.int .i64 (x : Int))) B M { o with views := o.views.set s x } :=
  ⟨by have := h.blk.set (3 + s) (.int .i64 (x : Int)); rwa [orCells_setView] at this, h.mp.tn ((Tn.refl [B] w).setCell (.inl (by simp)) _) (by simpa using h.ne.symm)⟩
theorem IsOr.setMap (h : IsOr w B M o) {f : Nat → Option Unit} (hm : Mp uElem w' M NN f) (ht : Tn [M] w w') : IsOr w' B M { o with ah := f } :=
  ⟨h.blk.tn ht (by simpa using h.ne), hm⟩

/-- What a call makes of it. -/
structure Ort (w w' : World) (B M : Nat) (o : Or) : Prop where
  is : IsOr w' B M o
  tn : Tn [B, M] w w'

theorem Ort.refl (h : IsOr w B M o) : Ort w w B M o := ⟨h, Tn.refl _ _⟩
theorem Ort.of_below (h : IsOr w B M o) (hb : Below w.heap.size w w') : Ort w w' B M o := ⟨h.below hb, Tn.of_below hb _⟩
theorem Ort.trans {w1 w2 : World} {o' : Or} (h1 : Ort w w1 B M o) (h2 : Ort w1 w2 B M o') : Ort w w2 B M o' := ⟨h2.is, h1.tn.trans h2.tn (fun x hx => .inl hx)⟩
end

theorem made_any {w : World} {B M : Nat} (h2 : w.cell? ⟨B, 2, none⟩ = some (.map (some M))) : Calls Try.prog 32 #[.pointer (some ⟨B, 0, none⟩)] w fun e w' => e = .returned (.bool true) ∧ w' = w := by
  have hq : ∀ w : World, (binOp BinOp.neq 58 (.map (some M)) (.map none)).run Try.prog w = .ok (.bool true) w := fun w => by kernel_rfl
  go_enter Try.func32, Try.ntmps32
  go_wp2
  go_ret
  exact ⟨rfl, rfl⟩

/-- One that no call made. -/
def Nm (w : World) (v : Value) : Prop := v = .pointer none ∨ ∃ S, v = .pointer (some ⟨S, 0, none⟩) ∧ w.cell? ⟨S, 2, none⟩ = some (.map none)

theorem Nm.below {w w' : World} {v : Value} (h : Nm w v) (hb : Below w.heap.size w w') : Nm w' v := by
  rcases h with h | ⟨S, h1, h2⟩
  · exact .inl h
  · exact .inr ⟨S, h1, by rw [hb.cell (p := ⟨S, 2, none⟩) (World.block_lt_of_cell? w _ h2)]; exact h2⟩

theorem made_no {w : World} {v : Value} (h : Nm w v) : Calls Try.prog 32 #[v] w fun e w' => e = .returned (.bool false) ∧ w' = w := by
  rcases h with rfl | ⟨S, rfl, c2⟩
  · go_enter Try.func32, Try.ntmps32
    go_wp2
    go_ret
    exact ⟨rfl, rfl⟩
  · have hq : ∀ w : World, (binOp BinOp.neq 58 (.map none) (.map none)).run Try.prog w = .ok (.bool false) w := fun w => by kernel_rfl
    go_enter Try.func32, Try.ntmps32
    go_wp2
    go_ret
    exact ⟨rfl, rfl⟩

end Go.Proofs.Ytdgphlghmjnjfaa
