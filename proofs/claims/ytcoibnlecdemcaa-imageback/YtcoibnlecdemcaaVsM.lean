/- Versions as plain data; what may be, what a timestamp sees. -/
import Derived.Test.YtcoibnlecdemcaaGnM
import Derived.Laws.BytesArg
import Derived.Laws.IdiomStrings
namespace Go.Proofs.Ytcoibnlecdemcaa
open Go.RowKit
set_option linter.unusedVariables false
set_option maxRecDepth 100000

/-- A version. -/
structure Vs where
  ts : Int
  val : ByteArray
  del : Bool

def Vs.cells (x : Vs) : List Value := [.int .i64 x.ts, .string x.val, .bool x.del]
abbrev Vs.v (x : Vs) : Value := .agg #[.int .i64 x.ts, .string x.val, .bool x.del]
abbrev Vs.zero : Vs := ⟨0, ⟨#[]⟩, false⟩

theorem vinfo : (Try.prog.info? 83).map (fun i => (i.zero, i.size, i.bytes)) = some (some (.agg #[.int .i64 0, .string ⟨#[]⟩, .bool false]), 3, 32) := by kernel_rfl
theorem vknd : Knd Vs.cells 3 := ⟨fun _ => rfl, fun x u hu => by simp [Vs.cells] at hu; rcases hu with rfl | rfl | rfl <;> rfl, by decide⟩

abbrev Vrs (w : World) (p : Option Addr) (l : List Vs) : Prop := Els Vs.cells 3 w p l
abbrev OwnV (w : World) (base : Nat) (v : Value) (l : List Vs) : Prop := Own Vs.cells 3 83 w base v l

theorem Vrs.cells {w : World} {p : Option Addr} {l : List Vs} (h : Vrs w p l) {j : Nat} (hj : j < l.length) : ∃ b o x, p = some ⟨b, o, none⟩ ∧ l[j]? = some x ∧ w.cell? ⟨b, o + j * 3, none⟩ = some (.int .i64 x.ts) ∧ w.cell? ⟨b, o + j * 3 + 1, none⟩ = some (.string x.val) ∧ w.cell? ⟨b, o + j * 3 + 2, none⟩ = some (.bool x.del) := by
  obtain ⟨b, o, x, hp, hx, hc⟩ := Els.at h hj
  exact ⟨b, o, x, hp, hx, hc 0 _ rfl, hc 1 _ rfl, hc 2 _ rfl⟩

namespace Vr
def emp (s : ByteArray) : Bool := s.toList == []
def fits (v : Vs) : Bool := decide (1 ≤ v.ts) && (decide (v.ts ≤ 1099511627776) && (decide (v.val.size ≤ 256) && !(v.del && !emp v.val)))
/-- The place of the first one that is not above a timestamp. -/
def seen (l : List Vs) (ts : Int) : Option Nat := l.findIdx? fun v => decide (v.ts ≤ ts)
def atI (l : List Vs) (ts : Int) : Int := match seen l ts with | some i => i | none => -1
def at? (l : List Vs) (ts : Int) : Option Vs := l.find? fun v => decide (v.ts ≤ ts)
def chk : Int → List Vs → Int
  | _, [] => 0
  | a, v :: r => if fits v && decide (v.ts < a) then chk v.ts r else 151
def check (l : List Vs) : Int := if 1024 < l.length then 3 else chk 1099511627777 l
end Vr

def Vr.valE (s : ByteArray) : Int := if s.size ≤ 256 then 0 else 31

theorem rvalue_any (s : ByteArray) (w : World) (hs : s.size ≤ 9223372036854775807) : Calls Try.prog 86 #[.string s] w fun e w' => e = .returned (.int .i64 (Vr.valE s)) ∧ w' = w := by
  by_cases h : s.size ≤ 256
  · have HV : Hid (Vr.valE s = 0) := if_pos h
    have h1 : ¬ (256 : Int) < (s.size : Int) := by omega
    go_enter Try.func86, Try.ntmps86
    go_wp2
    go_ret
    exact ⟨by rw [HV.out]; rfl, rfl⟩
  · have HV : Hid (Vr.valE s = 31) := if_neg h
    have h1 : (256 : Int) < (s.size : Int) := by omega
    go_enter Try.func86, Try.ntmps86
    go_wp2
    go_ret
    exact ⟨by rw [HV.out]; rfl, rfl⟩

theorem dvalue_any (s : ByteArray) (w : World) (hs : s.size ≤ 9223372036854775807) : Calls Try.prog 61 #[.string s] w fun e w' => e = .returned (.int .i64 (Vr.valE s)) ∧ w' = w := by
  by_cases h : s.size ≤ 256
  · have HV : Hid (Vr.valE s = 0) := if_pos h
    have h1 : ¬ (256 : Int) < (s.size : Int) := by omega
    go_enter Try.func61, Try.ntmps61
    go_wp2
    go_ret
    exact ⟨by rw [HV.out]; rfl, rfl⟩
  · have HV : Hid (Vr.valE s = 31) := if_neg h
    have h1 : (256 : Int) < (s.size : Int) := by omega
    go_enter Try.func61, Try.ntmps61
    go_wp2
    go_ret
    exact ⟨by rw [HV.out]; rfl, rfl⟩


theorem Vr.fits_lo {x : Vs} (h : ¬ 1 ≤ x.ts) : Vr.fits x = false := by simp [Vr.fits, h]
theorem Vr.fits_hi {x : Vs} (h : ¬ x.ts ≤ 1099511627776) : Vr.fits x = false := by simp [Vr.fits, h]
theorem Vr.fits_big {x : Vs} (h : ¬ x.val.size ≤ 256) : Vr.fits x = false := by simp [Vr.fits, h]
theorem Vr.fits_in {x : Vs} (h1 : 1 ≤ x.ts) (h2 : x.ts ≤ 1099511627776) (h3 : x.val.size ≤ 256) : Vr.fits x = !(x.del && !(x.val.toList == [])) := by simp [Vr.fits, h1, h2, h3, Vr.emp]

set_option maxHeartbeats 1000000 in
theorem fits_any (x : Vs) (w : World) (hs : x.val.size ≤ 9223372036854775807) : Calls Try.prog 76 #[x.v] w fun e w' => e = .returned (.bool (Vr.fits x)) ∧ Below w.heap.size w w' := by
  obtain ⟨ts, s, d⟩ := x
  by_cases h1 : 1 ≤ ts
  · by_cases h2 : ts ≤ 1099511627776
    · by_cases h3 : s.size ≤ 256
      · have hv : Vr.valE s = 0 := if_pos h3
        have HF : Hid (Vr.fits ⟨ts, s, d⟩ = !(d && !(s.toList == []))) := Vr.fits_in h1 h2 h3
        have h1' : decide (1 ≤ ts) = true := by simpa using h1
        have h2' : decide (ts ≤ 1099511627776) = true := by simpa using h2
        go_enter Try.func76, Try.ntmps76
        go_wp2_with ((go_at_call 86; refine (rvalue_any s _ hs).mono ?_; rintro e w1 ⟨rfl, rfl⟩))
        all_goals go_ret
        all_goals exact ⟨by rw [HF.out]; simp_all, (Below.refl _ _).alloc (Nat.le_refl _) _⟩
      · have hv : Vr.valE s = 31 := if_neg h3
        have HF : Hid (Vr.fits ⟨ts, s, d⟩ = false) := Vr.fits_big h3
        have h1' : decide (1 ≤ ts) = true := by simpa using h1
        have h2' : decide (ts ≤ 1099511627776) = true := by simpa using h2
        go_enter Try.func76, Try.ntmps76
        go_wp2_with ((go_at_call 86; refine (rvalue_any s _ hs).mono ?_; rintro e w1 ⟨rfl, rfl⟩))
        all_goals go_ret
        all_goals exact ⟨by rw [HF.out]; rfl, (Below.refl _ _).alloc (Nat.le_refl _) _⟩
    · have HF : Hid (Vr.fits ⟨ts, s, d⟩ = false) := Vr.fits_hi h2
      have h1' : decide (1 ≤ ts) = true := by simpa using h1
      have h2' : decide (ts ≤ 1099511627776) = false := by simpa using h2
      go_enter Try.func76, Try.ntmps76
      go_wp2
      all_goals go_ret
      all_goals exact ⟨by rw [HF.out]; rfl, (Below.refl _ _).alloc (Nat.le_refl _) _⟩
  · have HF : Hid (Vr.fits ⟨ts, s, d⟩ = false) := Vr.fits_lo h1
    have h1' : decide (1 ≤ ts) = false := by simpa using h1
    go_enter Try.func76, Try.ntmps76
    go_wp2
    all_goals go_ret
    all_goals exact ⟨by rw [HF.out]; rfl, (Below.refl _ _).alloc (Nat.le_refl _) _⟩

set_option maxHeartbeats 1000000 in
theorem may_any (x : Vs) (w : World) (hs : x.val.size ≤ 9223372036854775807) : Calls Try.prog 57 #[x.v] w fun e w' => e = .returned (.bool (Vr.fits x)) ∧ Below w.heap.size w w' := by
  obtain ⟨ts, s, d⟩ := x
  by_cases h1 : 1 ≤ ts
  · by_cases h2 : ts ≤ 1099511627776
    · by_cases h3 : s.size ≤ 256
      · have hv : Vr.valE s = 0 := if_pos h3
        have HF : Hid (Vr.fits ⟨ts, s, d⟩ = !(d && !(s.toList == []))) := Vr.fits_in h1 h2 h3
        have h1' : decide (1 ≤ ts) = true := by simpa using h1
        have h2' : decide (ts ≤ 1099511627776) = true := by simpa using h2
        go_enter Try.func57, Try.ntmps57
        go_wp2_with ((go_at_call 61; refine (dvalue_any s _ hs).mono ?_; rintro e w1 ⟨rfl, rfl⟩))
        all_goals go_ret
        all_goals exact ⟨by rw [HF.out]; simp_all, (Below.refl _ _).alloc (Nat.le_refl _) _⟩
      · have hv : Vr.valE s = 31 := if_neg h3
        have HF : Hid (Vr.fits ⟨ts, s, d⟩ = false) := Vr.fits_big h3
        have h1' : decide (1 ≤ ts) = true := by simpa using h1
        have h2' : decide (ts ≤ 1099511627776) = true := by simpa using h2
        go_enter Try.func57, Try.ntmps57
        go_wp2_with ((go_at_call 61; refine (dvalue_any s _ hs).mono ?_; rintro e w1 ⟨rfl, rfl⟩))
        all_goals go_ret
        all_goals exact ⟨by rw [HF.out]; rfl, (Below.refl _ _).alloc (Nat.le_refl _) _⟩
    · have HF : Hid (Vr.fits ⟨ts, s, d⟩ = false) := Vr.fits_hi h2
      have h1' : decide (1 ≤ ts) = true := by simpa using h1
      have h2' : decide (ts ≤ 1099511627776) = false := by simpa using h2
      go_enter Try.func57, Try.ntmps57
      go_wp2
      all_goals go_ret
      all_goals exact ⟨by rw [HF.out]; rfl, (Below.refl _ _).alloc (Nat.le_refl _) _⟩
  · have HF : Hid (Vr.fits ⟨ts, s, d⟩ = false) := Vr.fits_lo h1
    have h1' : decide (1 ≤ ts) = false := by simpa using h1
    go_enter Try.func57, Try.ntmps57
    go_wp2
    all_goals go_ret
    all_goals exact ⟨by rw [HF.out]; rfl, (Below.refl _ _).alloc (Nat.le_refl _) _⟩

end Go.Proofs.Ytcoibnlecdemcaa
