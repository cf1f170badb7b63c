/- A step: what stands behind each call. -/
import Derived.Test.YtpggnejifpcnmaaDkPair
import Derived.Test.YtpggnejifpcnmaaDkFuseM
namespace Go.Proofs.Ytpggnejifpcnmaa
open Go.RowKit Go.Shelf Go.Maps
set_option linter.unusedVariables false

/-- A disk and a reference, and the operation's box, which lies at the start's end. -/
def PS (w0 : World) (bs0 rs0 : List Nat) (w : World) (B R : Nat) (d e : Dk) (g : GOp) : Prop := ∃ bs rs, Pr w B R bs rs d e ∧ Tn (bs0 ++ rs0) w0 w ∧ (∀ b ∈ bs ++ rs, b ∈ bs0 ++ rs0 ∨ w0.heap.size < b) ∧ Bk w w0.heap.size 34 g.cells.toArray

section
variable {w0 w w' : World} {bs0 rs0 : List Nat} {B R : Nat} {d e d1 e1 : Dk} {g : GOp}

theorem PS.start (h : Pr w0 B R bs0 rs0 d e) : PS w0 bs0 rs0 (w0.alloc (.cells g.cells.toArray 34)) B R d e g :=
  ⟨bs0, rs0, h.below ((Below.refl _ _).alloc (Nat.le_refl _) _), (Tn.refl _ _).alloc _, fun b hb => .inl hb, Bk.new _ _ _⟩

theorem PS.done (h : PS w0 bs0 rs0 w B R d e g) : PT w0 w B R bs0 rs0 d e := by
  obtain ⟨bs, rs, h1, t, a, k⟩ := h
  refine ⟨bs, rs, h1, t, fun b hb => (a b (by simp [hb])).imp id Nat.le_of_lt, fun b hb => (a b (by simp [hb])).imp id Nat.le_of_lt⟩

theorem PS.below (h : PS w0 bs0 rs0 w B R d e g) (k : Below w.heap.size w w') : PS w0 bs0 rs0 w' B R d e g := by
  obtain ⟨bs, rs, h1, t, a, b⟩ := h
  exact ⟨bs, rs, h1.below k, t.trans (Tn.of_below k []) (by simp), a, b.below k b.lt⟩

theorem PS.turn (hp : Pr w0 B R bs0 rs0 d1 e1) {bs rs : List Nat} (t : Tn (bs0 ++ rs0) w0 w) (a : ∀ b ∈ bs ++ rs, b ∈ bs0 ++ rs0 ∨ w0.heap.size < b) (b : Bk w w0.heap.size 34 g.cells.toArray) {d2 e2 : Dk} (k : PT w w' B R bs rs d2 e2) : PS w0 bs0 rs0 w' B R d2 e2 g := by
  obtain ⟨bs', rs', h1, t', a', b'⟩ := k
  have hG : w0.heap.size ∉ bs ++ rs := fun hm => by
    rcases a _ hm with h | h
    · have := hp.lt _ h
      omega
    · omega
  have hs : ∀ x ∈ bs ++ rs, x ∈ bs0 ++ rs0 ∨ w0.heap.size ≤ x := fun x hx => (a x hx).imp id Nat.le_of_lt
  refine ⟨bs', rs', h1, t.trans t' hs, fun x hx => ?_, b.tn t' hG⟩
  have hl := b.lt
  rcases (List.mem_append.1 hx).elim (a' x) (b' x) with h | h
  · exact a x h
  · exact .inr (by omega)

/-- A call of the disk. -/
theorem PS.disk (hp : Pr w0 B R bs0 rs0 d1 e1) (h : PS w0 bs0 rs0 w B R d e g) {f : FuncId} {args : Array Value} {v : Value} {d2 : Dk}
    (hc : ∀ bs, Dsk w B bs d → Calls Try.prog f args w fun x w' => x = .returned v ∧ Turns w w' B bs d2) : Calls Try.prog f args w fun x w' => x = .returned v ∧ PS w0 bs0 rs0 w' B R d2 e g := by
  obtain ⟨bs, rs, h1, t, a, b⟩ := h
  exact (hc bs h1.1).mono fun x w' ⟨hx, ht⟩ => ⟨hx, PS.turn hp t a b (h1.disk ht)⟩

/-- A call of the reference. -/
theorem PS.ref (hp : Pr w0 B R bs0 rs0 d1 e1) (h : PS w0 bs0 rs0 w B R d e g) {f : FuncId} {args : Array Value} {v : Value} {e2 : Dk}
    (hc : ∀ rs, Rf w R rs e → (∀ b ∈ rs, b ∈ bs0 ++ rs0 ∨ w0.heap.size < b) → Calls Try.prog f args w fun x w' => x = .returned v ∧ RTurns w w' R rs e2) : Calls Try.prog f args w fun x w' => x = .returned v ∧ PS w0 bs0 rs0 w' B R d e2 g := by
  obtain ⟨bs, rs, h1, t, a, b⟩ := h
  exact (hc rs h1.2.1 (fun x hx => a x (by simp [hx]))).mono fun x w' ⟨hx, ht⟩ => ⟨hx, PS.turn hp t a b (h1.ref ht)⟩
end

/-- What a step asks. -/
structure StepIn (w : World) (B R : Nat) (bs rs : List Nat) (d : Dk) (g : GOp) : Prop where
  pr : Pr w B R bs rs d d
  op : OpIn w g
  ks : ∀ ad, g.kp = some ad → 0 < g.ks.length → ad.block ∉ bs ++ rs
  os : ∀ ad, g.op = some ad → 0 < g.os.length → ad.block ∉ bs ++ rs

/-- What a step does. -/
def Steps (w : World) (B R : Nat) (bs rs : List Nat) (d : Dk) (g : GOp) : Prop :=
  Calls Try.prog 12 #[.pointer (some ⟨B, 0, none⟩), .pointer (some ⟨R, 0, none⟩), .agg #[.int .i64 g.dd, .int .i64 g.pl, .int .u8 g.a, .int .u8 g.b, .int .i64 g.n, .slice g.kp g.ks.length g.kc, .slice g.op g.os.length g.oc]] w fun e w' => e = .returned (.tuple #[.pointer (some ⟨B, 0, none⟩), .bool true]) ∧ PT w w' B R bs rs (d.step g) (d.step g)

section
variable {w : World} {B R : Nat} {bs rs : List Nat} {d : Dk} {g : GOp}

set_option maxRecDepth 100000 in
set_option maxHeartbeats 4000000 in
theorem step_bar (h : StepIn w B R bs rs d g) (hd : g.dd = 1) : Steps w B R bs rs d g := by
  have HP : Hid (Pr w B R bs rs d d) := h.pr
  have HS1 : Hid (PS w bs rs (w.alloc (.cells g.cells.toArray 34)) B R d d g) := PS.start h.pr
  have es : d.step g = d.bar.2 := by simp [Dk.step, hd]
  unfold Steps
  rw [es]
  have b0 : (g.dd == 0) = false := by simp [hd]
  have b1 : (g.dd == 1) = true := by simp [hd]
  clear h hd es
  go_enter Try.func12, Try.ntmps12
  go_wp2_with fail
  refine (PS.disk HP.out HS1.out (fun bs h => bar_all h)).mono ?_
  rintro e w2 ⟨rfl, hs2⟩
  have HS2 : Hid (PS w bs rs w2 B R d.bar.2 d g) := hs2
  clear hs2 HS1
  go_wp2_with fail
  refine (PS.ref HP.out HS2.out (fun rs h _ => rbar h)).mono ?_
  rintro e w3 ⟨rfl, hs3⟩
  have HS3 : Hid (PS w bs rs w3 B R d.bar.2 d.bar.2 g) := hs3
  clear hs3 HS2
  have hb : (d.bar.1 == d.bar.1) = true := by simp
  go_wp2
  go_ret2
  exact ⟨by simp, HS3.out.done⟩

set_option maxRecDepth 100000 in
set_option maxHeartbeats 4000000 in
theorem step_restart (h : StepIn w B R bs rs d g) (hd : g.dd = 5) : Steps w B R bs rs d g := by
  have HP : Hid (Pr w B R bs rs d d) := h.pr
  have HS1 : Hid (PS w bs rs (w.alloc (.cells g.cells.toArray 34)) B R d d g) := PS.start h.pr
  have es : d.step g = { d with down := false } := by simp [Dk.step, hd]
  unfold Steps
  rw [es]
  have b0 : (g.dd == 0) = false := by simp [hd]
  have b1 : (g.dd == 1) = false := by simp [hd]
  have b2 : (g.dd == 2) = false := by simp [hd]
  have b3 : (g.dd == 3) = false := by simp [hd]
  have b4 : (g.dd == 4) = false := by simp [hd]
  have b5 : (g.dd == 5) = true := by simp [hd]
  clear h hd es
  go_enter Try.func12, Try.ntmps12
  go_wp2_with fail
  refine (PS.disk HP.out HS1.out (fun bs h => restart_any h)).mono ?_
  rintro e w2 ⟨rfl, hs2⟩
  have HS2 : Hid (PS w bs rs w2 B R { d with down := false } d g) := hs2
  clear hs2 HS1
  go_wp2_with fail
  refine (PS.ref HP.out HS2.out (fun rs h _ => rrestart h)).mono ?_
  rintro e w3 ⟨rfl, hs3⟩
  have HS3 : Hid (PS w bs rs w3 B R { d with down := false } { d with down := false } g) := hs3
  clear hs3 HS2
  go_wp2
  go_ret2
  exact ⟨by simp, HS3.out.done⟩
end

end Go.Proofs.Ytpggnejifpcnmaa
