/- A disk beside the document's, from the end of a world on, over whatever script. -/
import Derived.Test.YtpggnejifpcnmaaDkCl3
import Derived.Test.YtpggnejifpcnmaaDkEq
import Derived.Test.YtpggnejifpcnmaaDkBegun
namespace Go.Proofs.Ytpggnejifpcnmaa
open Go.ChangeShapes Go.WideShapes Go.ChangeAt Go.RowKit Go.Shelf
set_option linter.unusedVariables false

/-- What every disk of a script keeps to. -/
def Dk.Ok (d : Dk) : Prop := d.keep.length ≤ 140737488355328 ∧ (d.down = true → ∀ i, d.dirty i = none)

theorem Dk.Ok.lose (d : Dk) (ks : List Bool) : (d.lose ks).Ok := ⟨by simp [Dk.lose], fun _ _ => rfl⟩

theorem Dk.count_keep (d : Dk) : d.count.2.keep = d.keep ∧ d.count.2.down = d.down ∧ d.count.2.dirty = d.dirty := by
  unfold Dk.count
  split <;> exact ⟨rfl, rfl, rfl⟩

theorem Dk.Ok.write {d : Dk} (h : d.Ok) (i : Int) (xs : List Int) : (d.write i xs).2.Ok := by
  unfold Dk.write
  split
  · exact h
  · rename_i hr
    split
    · exact h
    · have hd : d.down = false := by
        cases hh : d.down with
        | false => rfl
        | true => exact absurd (by simp [Dk.reach, hh]) hr
      unfold Dk.wrote
      split
      · exact Dk.Ok.lose _ _
      · obtain ⟨h1, h2, h3⟩ := Dk.count_keep ({ d with dirty := upd d.dirty i.toNat xs } : Dk)
        refine ⟨?_, fun hh => ?_⟩
        · show _ ≤ _
          rw [h1]
          exact h.1
        · rw [h2] at hh
          simp [hd] at hh

theorem Dk.Ok.bar {d : Dk} (h : d.Ok) : d.bar.2.Ok := by
  unfold Dk.bar
  split
  · exact h
  · unfold Dk.barrier
    split
    · exact Dk.Ok.lose _ _
    · obtain ⟨h1, h2, h3⟩ := Dk.count_keep d
      exact ⟨by show d.count.2.keep.length ≤ _; rw [h1]; exact h.1, fun _ _ => rfl⟩

theorem Dk.Ok.crash {d : Dk} (h : d.Ok) (ks : List Bool) : (d.crash ks).2.Ok := by
  unfold Dk.crash
  split
  · exact h
  · exact Dk.Ok.lose _ _

theorem Dk.Ok.setFuse {d : Dk} (h : d.Ok) (n : Int) (ks : List Bool) (hk : ks.length ≤ 140737488355328) : (d.setFuse n ks).2.Ok := by
  unfold Dk.setFuse
  split
  · exact h
  · split
    · exact ⟨by simp, h.2⟩
    · exact ⟨hk, h.2⟩

theorem Dk.Ok.step {d : Dk} (h : d.Ok) (g : GOp) (hk : g.ks.length ≤ 140737488355328) : (d.step g).Ok := by
  unfold Dk.step
  split
  · exact h.write _ _
  split
  · exact h.bar
  split
  · exact h
  split
  · exact h.crash _
  split
  · exact h.setFuse _ _ hk
  split
  · exact ⟨h.1, fun hh => by simp at hh⟩
  · exact h.write _ _

/-- A disk beside the document's, from the end of a world on. -/
def Pw (w wr : World) (B R : Nat) (d : Dk) : Prop := (∃ bs rs, Pr wr B R bs rs d d ∧ ∀ b ∈ bs ++ rs, w.heap.size ≤ b) ∧ Below w.heap.size w wr ∧ d.Ok

section
variable {w wr w' : World} {B R : Nat} {d : Dk}

theorem Pw.below (h : Pw w wr B R d) (k : Below wr.heap.size wr w') : Pw w w' B R d := by
  obtain ⟨⟨bs, rs, h1, h2⟩, hb, ho⟩ := h
  exact ⟨⟨bs, rs, h1.below k, h2⟩, hb.trans (k.mono hb.size), ho⟩

theorem Pw.step (h : Pw w wr B R d) {g : GOp} (hg : OpIn w g) :
    Calls Try.prog 12 #[.pointer (some ⟨B, 0, none⟩), .pointer (some ⟨R, 0, none⟩), .agg #[.int .i64 g.dd, .int .i64 g.pl, .int .u8 g.a, .int .u8 g.b, .int .i64 g.n, .slice g.kp g.ks.length g.kc, .slice g.op g.os.length g.oc]] wr fun e w' => ∃ C d', e = .returned (.tuple #[.pointer (some ⟨C, 0, none⟩), .bool true]) ∧ Pw w w' C R d' := by
  obtain ⟨⟨bs, rs, h1, h4⟩, hb, ho⟩ := h
  have hs := hb.size
  have hin : StepIn wr B R bs rs d g := ⟨h1, hg.up hb, fun ad ha hl hm => by have := h4 _ hm; have := bls_lt hg.ks.bls ad ha hl; omega, fun ad ha hl hm => by have := h4 _ hm; have := bys_lt hg.os.bys ad ha hl; omega⟩
  by_cases h6 : g.dd = 6
  · refine (step_clone hin h6 ho.1).mono fun e w' ⟨C, cbs, cc, he, hp, ht, hc⟩ => ⟨C, _, he, ⟨cbs, rs, hp, fun b hb' => ?_⟩, hb.trans (ht.below hs (fun b hb' => h4 b (by simp [hb']))), ho⟩
    rcases List.mem_append.1 hb' with hh | hh
    · have := hc b hh
      omega
    · exact h4 b (by simp [hh])
  · refine (step_any hin h6).mono fun e w' ⟨he, hp⟩ => ⟨B, d.step g, he, ?_⟩
    obtain ⟨bs', rs', k1, k2, k3⟩ := hp.from h4 hs
    exact ⟨⟨bs', rs', k1, k2⟩, hb.trans k3, ho.step g (by have := hg.ks.le; have := hg.ks.room; omega)⟩

theorem Pw.equal (h : Pw w wr B R d) : Calls Try.prog 17 #[.pointer (some ⟨B, 0, none⟩), .pointer (some ⟨R, 0, none⟩)] wr fun e w' => e = .returned (.bool true) ∧ Pw w w' B R d := by
  have h0 := h
  obtain ⟨⟨bs, rs, h1, h4⟩, hb, ho⟩ := h
  exact (equalD_any h1.1 h1.2.1 (fun hd => by unfold dirts; rw [List.filter_eq_nil_iff]; intro i _; rw [ho.2 hd i]; simp)).mono fun e w' ⟨he, hk⟩ => ⟨he, h0.below hk⟩

theorem Pw.down (h : Pw w wr B R d) : Calls Try.prog 13 #[.pointer (some ⟨B, 0, none⟩)] wr fun e w' => e = .returned (.bool d.down) ∧ w' = wr := by
  obtain ⟨⟨bs, rs, h1, h4⟩, hb, ho⟩ := h
  exact down_any h1.1
theorem Pw.rdown (h : Pw w wr B R d) : Calls Try.prog 14 #[.pointer (some ⟨R, 0, none⟩)] wr fun e w' => e = .returned (.bool d.down) ∧ w' = wr := by
  obtain ⟨⟨bs, rs, h1, h4⟩, hb, ho⟩ := h
  exact Go.Proofs.Ytpggnejifpcnmaa.rdown h1.2.1
theorem Pw.calls (h : Pw w wr B R d) : Calls Try.prog 15 #[.pointer (some ⟨B, 0, none⟩)] wr fun e w' => e = .returned (.int .i64 d.calls) ∧ w' = wr := by
  obtain ⟨⟨bs, rs, h1, h4⟩, hb, ho⟩ := h
  exact calls_any h1.1
theorem Pw.rcalls (h : Pw w wr B R d) : Calls Try.prog 16 #[.pointer (some ⟨R, 0, none⟩)] wr fun e w' => e = .returned (.int .i64 d.calls) ∧ w' = wr := by
  obtain ⟨⟨bs, rs, h1, h4⟩, hb, ho⟩ := h
  exact Go.Proofs.Ytpggnejifpcnmaa.rcalls h1.2.1

/-- Between the two restarts. -/
def Pm (w wr : World) (B R : Nat) (d : Dk) : Prop := (∃ bs rs, Pr wr B R bs rs { d with down := false } d ∧ ∀ b ∈ bs ++ rs, w.heap.size ≤ b) ∧ Below w.heap.size w wr ∧ d.Ok

theorem Pw.restart (h : Pw w wr B R d) : Calls Try.prog 18 #[.pointer (some ⟨B, 0, none⟩)] wr fun e w' => e = .returned (.int .i64 0) ∧ Pm w w' B R d := by
  obtain ⟨⟨bs, rs, h1, h4⟩, hb, ho⟩ := h
  refine (restart_any h1.1).mono fun e w' ⟨he, ht⟩ => ⟨he, ?_⟩
  obtain ⟨bs', rs', k1, k2, k3⟩ := (h1.disk ht).from h4 hb.size
  exact ⟨⟨bs', rs', k1, k2⟩, hb.trans k3, ho⟩
theorem Pm.restart (h : Pm w wr B R d) : Calls Try.prog 19 #[.pointer (some ⟨R, 0, none⟩)] wr fun e w' => e = .returned (.int .i64 0) ∧ Pw w w' B R { d with down := false } := by
  obtain ⟨⟨bs, rs, h1, h4⟩, hb, ho⟩ := h
  refine (rrestart h1.2.1).mono fun e w' ⟨he, ht⟩ => ⟨he, ?_⟩
  obtain ⟨bs', rs', k1, k2, k3⟩ := (h1.ref ht).from h4 hb.size
  exact ⟨⟨bs', rs', k1, k2⟩, hb.trans k3, ho.1, fun hh => by simp at hh⟩
end

theorem pw_new {w w1 w2 : World} {B R n : Nat} {bs rs : List Nat} (h1 : Dsk w1 B bs (Dk.fresh n)) (g1 : ∀ b ∈ bs, w.heap.size ≤ b) (k1 : Below w.heap.size w w1) (h2 : Rf w2 R rs (Dk.fresh n)) (g2 : ∀ b ∈ rs, w1.heap.size ≤ b) (k2 : Below w1.heap.size w1 w2) : Pw w w2 B R (Dk.fresh n) := by
  have s1 := k1.size
  refine ⟨⟨bs, rs, ⟨h1.below k2, h2, fun b hb hb' => by have := h1.lt b hb; have := g2 b hb'; omega⟩, fun b hb => ?_⟩, k1.trans (k2.mono s1), ⟨by simp [Dk.fresh], fun _ _ => rfl⟩⟩
  rcases List.mem_append.1 hb with hb | hb
  · exact g1 b hb
  · have := g2 b hb
    omega

end Go.Proofs.Ytpggnejifpcnmaa
