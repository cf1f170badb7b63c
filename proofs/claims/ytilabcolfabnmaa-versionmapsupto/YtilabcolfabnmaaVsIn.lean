/- Pairs, writes, commits and maps that came in, of small bulk. -/
import Derived.Test.YtilabcolfabnmaaInU
import Derived.Test.YtilabcolfabnmaaPrF
import Derived.Test.YtilabcolfabnmaaSbM
import Derived.Test.YtilabcolfabnmaaVsOpen
namespace Go.Proofs.Ytilabcolfabnmaa
open Go.ChangeShapes Go.WideShapes Go.ChangeAt Go.RowKit
set_option linter.unusedVariables false
set_option maxRecDepth 100000

def Pr.fit (x : Pr) : Prop := x.key.size ≤ 1048576 ∧ x.val.size ≤ 1048576
def Wt.fit (x : Wt) : Prop := x.key.size ≤ 1048576 ∧ x.val.size ≤ 1048576
/-- A commit's writes lie there. -/
def Cm.fit (W : World) (x : Cm) : Prop := ∃ ws : List Wt, InR Wt.cells 3 Wt.fit W x.p x.n x.c ws

theorem small_lit {H : Type} {s : ByteArray} (hb : Rows.uptoBulk (DataW.lit (H := H) (.string s.data.toList)) ≤ 1048576) : s.size ≤ 1048576 := by
  simp only [Rows.uptoBulk] at hb
  have e : s.data.toList.length = s.size := by rw [Array.length_toList]; rfl
  omega

theorem list7 {α : Type} {l : List α} (h : l.length = 7) : ∃ a b c d e f g, l = [a, b, c, d, e, f, g] := by
  match l, h with
  | [a, b, c, d, e, f, g], _ => exact ⟨a, b, c, d, e, f, g, rfl⟩
theorem list6 {α : Type} {l : List α} (h : l.length = 6) : ∃ a b c d e f, l = [a, b, c, d, e, f] := by
  match l, h with
  | [a, b, c, d, e, f], _ => exact ⟨a, b, c, d, e, f, rfl⟩

section
variable {H : Type} {enc : TypeId × Value → H} {W : World} {fuel : Nat} {cs : List Value} {x : DataW H × List MemPlace}

theorem in_pr (hf : DataW.trod enc Try.prog W 0 (fun _ => true) true fuel 54 cs = some x) (hb : Rows.uptoBulk x.1 ≤ 1048576) : ∃ g : Pr, cs = g.cells ∧ g.fit := by
  obtain ⟨ys, n, -, rfl, hlen, hys, hall⟩ := DataW.trod_struct Try.underlying54 hf
  have eT : Try.prog.cellsOf 54 = 2 := by kernel_rfl
  rw [eT] at hlen
  obtain ⟨c0, c1, rfl⟩ := list2 hlen
  obtain ⟨y0, y1, rfl⟩ := list2 (l := ys) hys
  have h0 : DataW.trod enc Try.prog W 0 (fun _ => true) true n 9 [c0] = some y0 := by
    have h : DataW.trod enc Try.prog W 0 (fun _ => true) true n 9 (List.take (Try.prog.cellsOf 9) (List.drop 0 [c0, c1])) = some y0 := hall 0 _ rfl
    rw [show Try.prog.cellsOf 9 = 1 by kernel_rfl] at h
    exact h
  have h1 : DataW.trod enc Try.prog W 0 (fun _ => true) true n 9 [c1] = some y1 := by
    have h : DataW.trod enc Try.prog W 0 (fun _ => true) true n 9 (List.take (Try.prog.cellsOf 9) (List.drop 1 [c0, c1])) = some y1 := hall 1 _ rfl
    rw [show Try.prog.cellsOf 9 = 1 by kernel_rfl] at h
    exact h
  simp only [List.map, Rows.uptoBulk, Rows.uptoBulkAll] at hb
  have b0 : Rows.uptoBulk y0.1 ≤ 1048576 := by omega
  have b1 : Rows.uptoBulk y1.1 ≤ 1048576 := by omega
  obtain ⟨v0, q0, r0, _⟩ := DataW.trod_string Try.underlying9 h0
  obtain ⟨v1, q1, r1, _⟩ := DataW.trod_string Try.underlying9 h1
  rw [r0] at b0
  rw [r1] at b1
  simp only [List.cons.injEq, and_true] at q0 q1
  subst q0 q1
  exact ⟨⟨v0, v1⟩, rfl, small_lit b0, small_lit b1⟩

theorem in_wt (hf : DataW.trod enc Try.prog W 0 (fun _ => true) true fuel 50 cs = some x) (hb : Rows.uptoBulk x.1 ≤ 1048576) : ∃ g : Wt, cs = g.cells ∧ g.fit := by
  obtain ⟨ys, n, -, rfl, hlen, hys, hall⟩ := DataW.trod_struct Try.underlying50 hf
  have eT : Try.prog.cellsOf 50 = 3 := by kernel_rfl
  rw [eT] at hlen
  obtain ⟨c0, c1, c2, rfl⟩ := list3 hlen
  obtain ⟨y0, y1, y2, rfl⟩ := list3 (l := ys) hys
  have h0 : DataW.trod enc Try.prog W 0 (fun _ => true) true n 9 [c0] = some y0 := by
    have h : DataW.trod enc Try.prog W 0 (fun _ => true) true n 9 (List.take (Try.prog.cellsOf 9) (List.drop 0 [c0, c1, c2])) = some y0 := hall 0 _ rfl
    rw [show Try.prog.cellsOf 9 = 1 by kernel_rfl] at h
    exact h
  have h1 : DataW.trod enc Try.prog W 0 (fun _ => true) true n 9 [c1] = some y1 := by
    have h : DataW.trod enc Try.prog W 0 (fun _ => true) true n 9 (List.take (Try.prog.cellsOf 9) (List.drop 1 [c0, c1, c2])) = some y1 := hall 1 _ rfl
    rw [show Try.prog.cellsOf 9 = 1 by kernel_rfl] at h
    exact h
  have h2 : DataW.trod enc Try.prog W 0 (fun _ => true) true n 4 [c2] = some y2 := by
    have h : DataW.trod enc Try.prog W 0 (fun _ => true) true n 4 (List.take (Try.prog.cellsOf 4) (List.drop 2 [c0, c1, c2])) = some y2 := hall 2 _ rfl
    rw [show Try.prog.cellsOf 4 = 1 by kernel_rfl] at h
    exact h
  simp only [List.map, Rows.uptoBulk, Rows.uptoBulkAll] at hb
  have b0 : Rows.uptoBulk y0.1 ≤ 1048576 := by omega
  have b1 : Rows.uptoBulk y1.1 ≤ 1048576 := by omega
  obtain ⟨v0, q0, r0, _⟩ := DataW.trod_string Try.underlying9 h0
  obtain ⟨v1, q1, r1, _⟩ := DataW.trod_string Try.underlying9 h1
  rw [r0] at b0
  rw [r1] at b1
  obtain ⟨v2, q2, r2⟩ := DataW.trod_bool Try.underlying4 h2
  simp only [List.cons.injEq, and_true] at q0 q1 q2
  subst q0 q1 q2
  exact ⟨⟨v0, v1, v2⟩, rfl, small_lit b0, small_lit b1⟩

theorem in_prs (hf : DataW.trod enc Try.prog W 0 (fun _ => true) true fuel 22 cs = some x) (hb : Rows.uptoBulk x.1 ≤ 1048576) : ∃ a len cap l, cs = [.slice a len cap] ∧ InR Pr.cells 2 Pr.fit W a len cap l :=
  haveI : Inhabited Pr := ⟨⟨⟨#[]⟩, ⟨#[]⟩⟩⟩
  in_rowU Try.underlying22 (by kernel_rfl) (fun g => by simp [Pr.cells]) (fun fuel cs x h1 h2 => in_pr h1 h2) hf hb
theorem in_wts (hf : DataW.trod enc Try.prog W 0 (fun _ => true) true fuel 23 cs = some x) (hb : Rows.uptoBulk x.1 ≤ 1048576) : ∃ a len cap l, cs = [.slice a len cap] ∧ InR Wt.cells 3 Wt.fit W a len cap l :=
  haveI : Inhabited Wt := ⟨⟨⟨#[]⟩, ⟨#[]⟩, false⟩⟩
  in_rowU Try.underlying23 (by kernel_rfl) (fun g => by simp [Wt.cells]) (fun fuel cs x h1 h2 => in_wt h1 h2) hf hb

theorem in_cm (hf : DataW.trod enc Try.prog W 0 (fun _ => true) true fuel 42 cs = some x) (hb : Rows.uptoBulk x.1 ≤ 1048576) : ∃ g : Cm, cs = g.cells ∧ g.fit W := by
  obtain ⟨ys, n, -, rfl, hlen, hys, hall⟩ := DataW.trod_struct Try.underlying42 hf
  have eT : Try.prog.cellsOf 42 = 2 := by kernel_rfl
  rw [eT] at hlen
  obtain ⟨c0, c1, rfl⟩ := list2 hlen
  obtain ⟨y0, y1, rfl⟩ := list2 (l := ys) hys
  have h0 : DataW.trod enc Try.prog W 0 (fun _ => true) true n 2 [c0] = some y0 := by
    have h : DataW.trod enc Try.prog W 0 (fun _ => true) true n 2 (List.take (Try.prog.cellsOf 2) (List.drop 0 [c0, c1])) = some y0 := hall 0 _ rfl
    rw [show Try.prog.cellsOf 2 = 1 by kernel_rfl] at h
    exact h
  have h1 : DataW.trod enc Try.prog W 0 (fun _ => true) true n 23 [c1] = some y1 := by
    have h : DataW.trod enc Try.prog W 0 (fun _ => true) true n 23 (List.take (Try.prog.cellsOf 23) (List.drop 1 [c0, c1])) = some y1 := hall 1 _ rfl
    rw [show Try.prog.cellsOf 23 = 1 by kernel_rfl] at h
    exact h
  simp only [List.map, Rows.uptoBulk, Rows.uptoBulkAll] at hb
  obtain ⟨v0, q0, _, _⟩ := DataW.trod_int Try.underlying2 h0
  obtain ⟨a, len, cap, l, q1, hl⟩ := in_wts h1 (by omega)
  simp only [List.cons.injEq, and_true] at q0 q1
  subst q0 q1
  exact ⟨⟨v0, a, len, cap⟩, rfl, l, hl⟩

theorem in_cms (hf : DataW.trod enc Try.prog W 0 (fun _ => true) true fuel 24 cs = some x) (hb : Rows.uptoBulk x.1 ≤ 1048576) : ∃ a len cap l, cs = [.slice a len cap] ∧ InR Cm.cells 2 (Cm.fit W) W a len cap l :=
  haveI : Inhabited Cm := ⟨⟨0, none, 0, 0⟩⟩
  in_rowU Try.underlying24 (by kernel_rfl) (fun g => by simp [Cm.cells]) (fun fuel cs x h1 h2 => in_cm h1 h2) hf hb

theorem in_rng (hf : DataW.trod enc Try.prog W 0 (fun _ => true) true fuel 26 cs = some x) : ∃ a b : ByteArray, cs = [.string a, .string b] := by
  obtain ⟨ys, n, -, rfl, hlen, hys, hall⟩ := DataW.trod_struct Try.underlying26 hf
  have eT : Try.prog.cellsOf 26 = 2 := by kernel_rfl
  rw [eT] at hlen
  obtain ⟨c0, c1, rfl⟩ := list2 hlen
  obtain ⟨y0, y1, rfl⟩ := list2 (l := ys) hys
  have h0 : DataW.trod enc Try.prog W 0 (fun _ => true) true n 9 [c0] = some y0 := by
    have h : DataW.trod enc Try.prog W 0 (fun _ => true) true n 9 (List.take (Try.prog.cellsOf 9) (List.drop 0 [c0, c1])) = some y0 := hall 0 _ rfl
    rw [show Try.prog.cellsOf 9 = 1 by kernel_rfl] at h
    exact h
  have h1 : DataW.trod enc Try.prog W 0 (fun _ => true) true n 9 [c1] = some y1 := by
    have h : DataW.trod enc Try.prog W 0 (fun _ => true) true n 9 (List.take (Try.prog.cellsOf 9) (List.drop 1 [c0, c1])) = some y1 := hall 1 _ rfl
    rw [show Try.prog.cellsOf 9 = 1 by kernel_rfl] at h
    exact h
  obtain ⟨v0, q0, -, _⟩ := DataW.trod_string Try.underlying9 h0
  obtain ⟨v1, q1, -, _⟩ := DataW.trod_string Try.underlying9 h1
  simp only [List.cons.injEq, and_true] at q0 q1
  subst q0 q1
  exact ⟨v0, v1, rfl⟩

/-- Maps as plain data. -/
structure Mq where
  pp : Option Addr
  pn : Nat
  pc : Nat
  wp : Option Addr
  wn : Nat
  wc : Nat
  cp : Option Addr
  cn : Nat
  cc : Nat
  lo : ByteArray
  hi : ByteArray
  ts : Int
  stop : Int
def Mq.cells (q : Mq) : List Value := [.slice q.pp q.pn q.pc, .slice q.wp q.wn q.wc, .slice q.cp q.cn q.cc, .string q.lo, .string q.hi, .int .i64 q.ts, .int .i64 q.stop]
abbrev Mq.v (q : Mq) : Value := .agg #[.slice q.pp q.pn q.pc, .slice q.wp q.wn q.wc, .slice q.cp q.cn q.cc, .string q.lo, .string q.hi, .int .i64 q.ts, .int .i64 q.stop]
/-- What they lead to. -/
structure MqIn (W : World) (q : Mq) (ps : List Pr) (ws : List Wt) (cs : List Cm) : Prop where
  p : InR Pr.cells 2 Pr.fit W q.pp q.pn q.pc ps
  w : InR Wt.cells 3 Wt.fit W q.wp q.wn q.wc ws
  c : InR Cm.cells 2 (Cm.fit W) W q.cp q.cn q.cc cs
  stop : (Lit.int .i64 q.stop).wf = true

theorem in_maps (hf : DataW.trod enc Try.prog W 0 (fun _ => true) true fuel 28 cs = some x) (hb : Rows.uptoBulk x.1 ≤ 1048576) : ∃ (q : Mq) (ps : List Pr) (ws : List Wt) (cl : List Cm), cs = q.cells ∧ MqIn W q ps ws cl := by
  obtain ⟨ys, n, -, rfl, hlen, hys, hall⟩ := DataW.trod_struct Try.underlying28 hf
  have eT : Try.prog.cellsOf 28 = 7 := by kernel_rfl
  rw [eT] at hlen
  obtain ⟨c0, c1, c2, c3, c4, c5, c6, rfl⟩ := list7 hlen
  obtain ⟨y0, y1, y2, y3, y4, y5, rfl⟩ := list6 (l := ys) hys
  have h0 : DataW.trod enc Try.prog W 0 (fun _ => true) true n 22 [c0] = some y0 := by
    have h : DataW.trod enc Try.prog W 0 (fun _ => true) true n 22 (List.take (Try.prog.cellsOf 22) (List.drop 0 [c0, c1, c2, c3, c4, c5, c6])) = some y0 := hall 0 _ rfl
    rw [show Try.prog.cellsOf 22 = 1 by kernel_rfl] at h
    exact h
  have h1 : DataW.trod enc Try.prog W 0 (fun _ => true) true n 23 [c1] = some y1 := by
    have h : DataW.trod enc Try.prog W 0 (fun _ => true) true n 23 (List.take (Try.prog.cellsOf 23) (List.drop 1 [c0, c1, c2, c3, c4, c5, c6])) = some y1 := hall 1 _ rfl
    rw [show Try.prog.cellsOf 23 = 1 by kernel_rfl] at h
    exact h
  have h2 : DataW.trod enc Try.prog W 0 (fun _ => true) true n 24 [c2] = some y2 := by
    have h : DataW.trod enc Try.prog W 0 (fun _ => true) true n 24 (List.take (Try.prog.cellsOf 24) (List.drop 2 [c0, c1, c2, c3, c4, c5, c6])) = some y2 := hall 2 _ rfl
    rw [show Try.prog.cellsOf 24 = 1 by kernel_rfl] at h
    exact h
  have h3 : DataW.trod enc Try.prog W 0 (fun _ => true) true n 26 [c3, c4] = some y3 := by
    have h : DataW.trod enc Try.prog W 0 (fun _ => true) true n 26 (List.take (Try.prog.cellsOf 26) (List.drop 3 [c0, c1, c2, c3, c4, c5, c6])) = some y3 := hall 3 _ rfl
    rw [show Try.prog.cellsOf 26 = 2 by kernel_rfl] at h
    exact h
  have h4 : DataW.trod enc Try.prog W 0 (fun _ => true) true n 2 [c5] = some y4 := by
    have h : DataW.trod enc Try.prog W 0 (fun _ => true) true n 2 (List.take (Try.prog.cellsOf 2) (List.drop 5 [c0, c1, c2, c3, c4, c5, c6])) = some y4 := hall 4 _ rfl
    rw [show Try.prog.cellsOf 2 = 1 by kernel_rfl] at h
    exact h
  have h5 : DataW.trod enc Try.prog W 0 (fun _ => true) true n 3 [c6] = some y5 := by
    have h : DataW.trod enc Try.prog W 0 (fun _ => true) true n 3 (List.take (Try.prog.cellsOf 3) (List.drop 6 [c0, c1, c2, c3, c4, c5, c6])) = some y5 := hall 5 _ rfl
    rw [show Try.prog.cellsOf 3 = 1 by kernel_rfl] at h
    exact h
  simp only [List.map, Rows.uptoBulk, Rows.uptoBulkAll] at hb
  obtain ⟨pp, pn, pc, ps, q0, k0⟩ := in_prs h0 (by omega)
  obtain ⟨wp, wn, wc, ws, q1, k1⟩ := in_wts h1 (by omega)
  obtain ⟨cp, cn, cc, cl, q2, k2⟩ := in_cms h2 (by omega)
  obtain ⟨lo, hi, q3⟩ := in_rng h3
  obtain ⟨ts, q4, _, _⟩ := DataW.trod_int Try.underlying2 h4
  obtain ⟨st, q5, _, w5⟩ := DataW.trod_int Try.underlying3 h5
  simp only [List.cons.injEq, and_true] at q0 q1 q2 q3 q4 q5
  obtain ⟨rfl, rfl⟩ := q3
  subst q0 q1 q2 q4 q5
  exact ⟨⟨pp, pn, pc, wp, wn, wc, cp, cn, cc, lo, hi, ts, st⟩, ps, ws, cl, rfl, k0, k1, k2, w5⟩
end

theorem in_versU {H : Type} {enc : TypeId × Value → H} {W : World} {fuel : Nat} {cs : List Value} {x : DataW H × List MemPlace} (hf : DataW.trod enc Try.prog W 0 (fun _ => true) true fuel 44 cs = some x) (hb : Rows.uptoBulk x.1 ≤ 1048576) : ∃ a len cap l, cs = [.slice a len cap] ∧ InR Vs.cells 3 Vs.ok W a len cap l :=
  haveI : Inhabited Vs := ⟨Vs.zero⟩
  in_rowU Try.underlying44 (by kernel_rfl) (fun g => by simp [Vs.cells]) (fun fuel cs x h1 h2 => in_ver h1) hf hb

/-- Each commit's writes, chosen once. -/
theorem wsOf_ex {W : World} {l : List Cm} (h : ∀ g ∈ l, Cm.fit W g) : ∃ f : Cm → List Wt, ∀ g ∈ l, InR Wt.cells 3 Wt.fit W g.p g.n g.c (f g) := by
  classical
  refine ⟨fun g => if h : Cm.fit W g then h.choose else [], fun g hg => ?_⟩
  simp only [dif_pos (h g hg)]
  exact (h g hg).choose_spec
theorem CwOk.of {W : World} {f : Cm → List Wt} {x : Cm} (h : InR Wt.cells 3 Wt.fit W x.p x.n x.c (f x)) : CwOk f W x :=
  ⟨h.els, h.lenq, fun i y hy => by
    have := (h.ok y (List.mem_of_getElem? hy)).1
    unfold maxLen
    omega, h.nil⟩
end Go.Proofs.Ytilabcolfabnmaa
