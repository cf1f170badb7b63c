/- Boxes of int: a value is put or taken, if it can be at once. -/
import Derived.Test.YtnjokhdedgdjjaaCeM
import Derived.Conc.LoneSelectN
import Derived.Conc.LoneSelect
import Derived.KernelRfl
import Derived.Laws.Rows
namespace Go.Proofs.Ytnjokhdedgdjjaa
open Go.Conc Go.RowKit
set_option linter.unusedVariables false

set_option maxRecDepth 100000 in
theorem push_roomI {w : World} {B c room s r : Nat} {buf : Array Value} (q : Option Addr) (h0 : w.cell? ⟨B, 0, none⟩ = some (.chan (some c))) (hc : w.heap[c]? = some (.chan room buf false s r false)) (hroom : buf.size < room) :
    Calls Try.prog 59 #[.pointer (some ⟨B, 0, none⟩), .pointer q] w fun e w' => e = .returned (.int .i64 0) ∧ w' = w.setChan c room (buf.push (.pointer q)) false (s + 1) r false := by
  refine calls_of_loneTo fun cs => ?_
  have e : Frame.enter Try.prog 59 #[.pointer (some ⟨B, 0, none⟩), .pointer q] .normal = (base 59).at ⟨#[.pointer (some ⟨B, 0, none⟩), .pointer q, undef, undef, undef, undef, undef, undef, undef, undef, undef, undef, undef], []⟩ [.code (Try.f59.body.getD .skip)] := by
    simp [Frame.enter, Frame.at, Try.func59, base, Try.f59]
  rw [e]
  refine LoneTo.goes (n := 20) ?_
  simp only [Try.f59, Option.getD_some]
  s_c stepG_seq
  s_reg
  s_op
  s_c stepG_region_end
  s_c stepG_seq
  s_c stepG_seq
  s_reg
  s_op
  s_op
  s_op
  s_op
  s_c stepG_region_end
  s_reg
  s_op
  s_c stepG_region_end
  s_c stepG_seq
  s_reg
  s_stop
  refine LoneTo.step (step_lone_select_send_room (c := c) (v := .pointer q) (z' := .pointer none) (cap := room) (buf := buf) (s := s) (r := r) (tm := false) (stepG_comm (cases := #[scase c (.pointer q) (.pointer none)]) (blocking := false) (shape := .select) (w' := w) rfl rfl (by decide) (by simp [go_sem, execOp, scase, Act.eval])) hc hroom) ?_
  rw [Frame.finish_at]
  walk_nrm
  refine LoneTo.goes (n := 12) ?_
  s_op
  s_op
  s_c stepG_region_end
  s_c stepG_block
  s_cond true
  s_c stepG_seq
  s_reg
  s_op
  s_c stepG_region_end
  s_c stepG_ret'
  s_stop
  exact LoneTo.done ⟨.returned (.int .i64 0), _, rfl, ⟨rfl, rfl⟩, rfl, rfl, rfl, rfl, _, Try.func59, by simp [results, Try.f59, Frame.at]⟩

set_option maxRecDepth 100000 in
theorem push_fullI {w : World} {B c room s r : Nat} {buf : Array Value} (q : Option Addr) (h0 : w.cell? ⟨B, 0, none⟩ = some (.chan (some c))) (hc : w.heap[c]? = some (.chan room buf false s r false)) (hroom : room ≤ buf.size) :
    Calls Try.prog 59 #[.pointer (some ⟨B, 0, none⟩), .pointer q] w fun e w' => e = .returned (.int .i64 5) ∧ w' = w := by
  refine calls_of_loneTo fun cs => ?_
  have e : Frame.enter Try.prog 59 #[.pointer (some ⟨B, 0, none⟩), .pointer q] .normal = (base 59).at ⟨#[.pointer (some ⟨B, 0, none⟩), .pointer q, undef, undef, undef, undef, undef, undef, undef, undef, undef, undef, undef], []⟩ [.code (Try.f59.body.getD .skip)] := by
    simp [Frame.enter, Frame.at, Try.func59, base, Try.f59]
  rw [e]
  refine LoneTo.goes (n := 20) ?_
  simp only [Try.f59, Option.getD_some]
  s_c stepG_seq
  s_reg
  s_op
  s_c stepG_region_end
  s_c stepG_seq
  s_c stepG_seq
  s_reg
  s_op
  s_op
  s_op
  s_op
  s_c stepG_region_end
  s_reg
  s_op
  s_c stepG_region_end
  s_c stepG_seq
  s_reg
  s_stop
  refine LoneTo.step (step_lone_select_send_full (c := c) (v := .pointer q) (z' := .pointer none) (cap := room) (buf := buf) (s := s) (r := r) (tm := false) (stepG_comm (cases := #[scase c (.pointer q) (.pointer none)]) (blocking := false) (shape := .select) (w' := w) rfl rfl (by decide) (by simp [go_sem, execOp, scase, Act.eval])) hc hroom) ?_
  rw [Frame.finish_at]
  walk_nrm
  refine LoneTo.goes (n := 12) ?_
  s_op
  s_op
  s_c stepG_region_end
  s_c stepG_block
  s_cond false
  s_c stepG_seq
  s_reg
  s_op
  s_c stepG_region_end
  s_c stepG_ret'
  s_stop
  exact LoneTo.done ⟨.returned (.int .i64 5), _, rfl, ⟨rfl, rfl⟩, rfl, rfl, rfl, rfl, _, Try.func59, by simp [results, Try.f59, Frame.at]⟩

set_option maxRecDepth 100000 in
theorem pull_someI {w : World} {B c room s r : Nat} {buf : Array Value} {q : Option Addr} (h0 : w.cell? ⟨B, 0, none⟩ = some (.chan (some c))) (hc : w.heap[c]? = some (.chan room buf false s r false)) (hsome : 0 < buf.size) (hq : buf.getD 0 undef = .pointer q) :
    Calls Try.prog 49 #[.pointer (some ⟨B, 0, none⟩)] w fun e w' => e = .returned (.tuple #[.pointer q, .int .i64 0]) ∧ w' = w.setChan c room (buf.extract 1 buf.size) false s (r + 1) false := by
  refine calls_of_loneTo fun cs => ?_
  have e : Frame.enter Try.prog 49 #[.pointer (some ⟨B, 0, none⟩)] .normal = (base 49).at ⟨#[.pointer (some ⟨B, 0, none⟩), undef, undef, undef, undef, undef, undef, undef, undef, undef, undef, undef, undef, undef], []⟩ [.code (Try.f49.body.getD .skip)] := by
    simp [Frame.enter, Frame.at, Try.func49, base, Try.f49]
  rw [e]
  refine LoneTo.goes (n := 20) ?_
  simp only [Try.f49, Option.getD_some]
  s_c stepG_seq
  s_reg
  s_op
  s_op
  s_c stepG_region_end
  s_c stepG_seq
  s_reg
  s_op
  s_op
  s_op
  s_op
  s_c stepG_region_end
  s_c stepG_seq
  s_reg
  s_stop
  refine LoneTo.step (step_lone_select_recv_buf (c := c) (z := .pointer none) (cap := room) (buf := buf) (closed := false) (s := s) (r := r) (tm := false) (stepG_comm (cases := #[rcase c (.pointer none)]) (blocking := false) (shape := .select) (w' := w) rfl rfl (by decide) (by simp [go_sem, execOp, rcase, Act.eval])) hc hsome) ?_
  rw [Frame.finish_at, hq]
  walk_nrm
  refine LoneTo.goes (n := 20) ?_
  s_op
  s_op
  s_c stepG_region_end
  s_c stepG_block
  s_cond true
  s_c stepG_seq
  s_reg
  s_op
  s_op
  s_c stepG_region_end
  s_c stepG_seq
  s_reg
  s_op
  s_op
  s_op
  s_c stepG_region_end
  s_c stepG_ret'
  s_stop
  exact LoneTo.done ⟨.returned (.tuple #[.pointer q, .int .i64 0]), _, rfl, ⟨rfl, rfl⟩, rfl, rfl, rfl, rfl, _, Try.func49, by simp [results, Try.f49, Frame.at]⟩

set_option maxRecDepth 100000 in
theorem pull_noneI {w : World} {B c room s r : Nat} (h0 : w.cell? ⟨B, 0, none⟩ = some (.chan (some c))) (hc : w.heap[c]? = some (.chan room #[] false s r false)) :
    Calls Try.prog 49 #[.pointer (some ⟨B, 0, none⟩)] w fun e w' => e = .returned (.tuple #[.pointer none, .int .i64 4]) ∧ w' = w := by
  refine calls_of_loneTo fun cs => ?_
  have e : Frame.enter Try.prog 49 #[.pointer (some ⟨B, 0, none⟩)] .normal = (base 49).at ⟨#[.pointer (some ⟨B, 0, none⟩), undef, undef, undef, undef, undef, undef, undef, undef, undef, undef, undef, undef, undef], []⟩ [.code (Try.f49.body.getD .skip)] := by
    simp [Frame.enter, Frame.at, Try.func49, base, Try.f49]
  rw [e]
  refine LoneTo.goes (n := 20) ?_
  simp only [Try.f49, Option.getD_some]
  s_c stepG_seq
  s_reg
  s_op
  s_op
  s_c stepG_region_end
  s_c stepG_seq
  s_reg
  s_op
  s_op
  s_op
  s_op
  s_c stepG_region_end
  s_c stepG_seq
  s_reg
  s_stop
  refine LoneTo.step (step_lone_select_default (c := c) (z := .pointer none) (cap := room) (s := s) (r := r) (tm := false) (stepG_comm (cases := #[rcase c (.pointer none)]) (blocking := false) (shape := .select) (w' := w) rfl rfl (by decide) (by simp [go_sem, execOp, rcase, Act.eval])) hc) ?_
  rw [Frame.finish_at]
  walk_nrm
  refine LoneTo.goes (n := 20) ?_
  s_op
  s_op
  s_c stepG_region_end
  s_c stepG_block
  s_cond false
  s_c stepG_seq
  s_reg
  s_op
  s_op
  s_c stepG_region_end
  s_c stepG_ret'
  s_stop
  exact LoneTo.done ⟨.returned (.tuple #[.pointer none, .int .i64 4]), _, rfl, ⟨rfl, rfl⟩, rfl, rfl, rfl, rfl, _, Try.func49, by simp [results, Try.f49, Frame.at]⟩
end Go.Proofs.Ytnjokhdedgdjjaa
