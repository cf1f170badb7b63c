/- Schedulers: what is refused. -/
import Derived.Test.YtnjokhdedgdjjaaSdQ
namespace Go.Proofs.Ytnjokhdedgdjjaa
open Go.RowKit Go.Maps
set_option linter.unusedVariables false
set_option maxRecDepth 100000

theorem newBox_bad (n : Int) (h : n < 1 ∨ 4096 < n) (w : World) : Calls Try.prog 26 #[.int .i64 n] w fun e w' => e = .returned (.tuple #[.pointer none, .int .i64 1]) ∧ w' = w := by
  by_cases h1 : n < 1
  · clear h
    go_enter Try.func26, Try.ntmps26
    go_wp2
    go_ret2
    exact ⟨rfl, rfl⟩
  · have h2 : (4096 : Int) < n := by omega
    clear h
    go_enter Try.func26, Try.ntmps26
    go_wp2
    go_ret2
    exact ⟨rfl, rfl⟩

theorem new_bad (n : Int) (h : n < 1 ∨ 4096 < n) (w : World) : Calls Try.prog 7 #[.int .i64 n] w fun e w' => e = .returned (.tuple #[.pointer none, .int .i64 1]) ∧ w' = w := by
  have HH : Hid (n < 1 ∨ 4096 < n) := h
  clear h
  go_enter Try.func7, Try.ntmps7
  go_wp2_with fail
  refine (newBox_bad n HH.out w).mono ?_
  rintro e w1 ⟨rfl, rfl⟩
  go_wp2
  go_ret2
  exact ⟨rfl, rfl⟩

section
variable {w : World} {N : Nat} {g : Ge} {s : Sc}
theorem spawn_nil (h : Sd w N g s) : Calls Try.prog 18 #[.pointer (some ⟨g.S, 0, none⟩), .nilIface] w fun e w' => e = .returned (.tuple #[.int .i64 0, .int .i64 1]) ∧ w' = w := by
  have c2 := h.c2
  have hif : (binOp BinOp.eql 79 .nilIface .nilIface).run Try.prog w = .ok (.bool true) w := by kernel_rfl
  clear h
  go_enter Try.func18, Try.ntmps18
  go_wp2_with fail
  refine (made_any c2).mono ?_
  rintro e w0 ⟨rfl, rfl⟩
  go_wp2
  go_ret2
  exact ⟨rfl, rfl⟩

theorem spawn_full (h : Sd w N g s) (fb : Nat) (hroom : s.fl.length + s.box.length = s.room) : Calls Try.prog 18 #[.pointer (some ⟨g.S, 0, none⟩), fv fb] w fun e w' => e = .returned (.tuple #[.int .i64 0, .int .i64 5]) ∧ ∃ k, w' = w.drewN k := by
  have c2 := h.c2
  obtain ⟨nf, hnf⟩ : ∃ nf, nf = s.fl.length := ⟨_, rfl⟩
  obtain ⟨nb, hnb'⟩ : ∃ nb, nb = s.box.length := ⟨_, rfl⟩
  have heq : wrap64 ((nf : Int) + (nb : Int)) = (s.room : Int) := by
    have := h.big
    unfold wrap64
    omega
  have HH : Hid (Sd w N g s) := h
  have hif : (binOp BinOp.eql 79 (fv fb) .nilIface).run Try.prog w = .ok (.bool false) w := by kernel_rfl
  have HNF : Hid (nf = s.fl.length ∧ nb = s.box.length) := ⟨hnf, hnb'⟩
  clear h hroom hnf hnb'
  go_enter Try.func18, Try.ntmps18
  go_wp2_with fail
  refine (made_any c2).mono ?_
  rintro e w0 ⟨rfl, rfl⟩
  go_wp2_with fail
  go_quiet (first
    | (go_at_call 11; refine Calls.quiet_of_same (count_any (HH.out.drew _) nf HNF.out.1))
    | (go_at_call 34; refine Calls.quiet_of_same (blen_anyI (HH.out.drew _).bx nb (by simp [HNF.out.2])))
    | (go_at_call 35; refine Calls.quiet_of_same (broom_anyI (HH.out.drew _).bx)))
  go_wp2
  go_ret2
  exact ⟨rfl, _, rfl⟩
end
end Go.Proofs.Ytnjokhdedgdjjaa
