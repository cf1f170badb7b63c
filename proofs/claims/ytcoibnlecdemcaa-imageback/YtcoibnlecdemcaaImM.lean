/- An image as plain data, and in memory. -/
import Derived.Test.YtcoibnlecdemcaaRkCh
import Derived.Test.YtcoibnlecdemcaaVsC
import Derived.Test.YtcoibnlecdemcaaGnT
import Derived.Test.YtcoibnlecdemcaaKyA
namespace Go.Proofs.Ytcoibnlecdemcaa
open Go.RowKit
set_option linter.unusedVariables false
set_option maxRecDepth 100000

/-- A pair with its timestamp. -/
abbrev St := Rk.St
abbrev St.v (x : St) : Value := .agg #[.string x.key, .string x.val, .int .i64 x.ts]
theorem stinfo : (Try.prog.info? 52).map (fun i => (i.zero, i.size, i.bytes)) = some (some (.agg #[.string ⟨#[]⟩, .string ⟨#[]⟩, .int .i64 0]), 3, 40) := by kernel_rfl
theorem stknd : Knd Rk.St.cells 3 := ⟨fun _ => rfl, fun x u hu => by simp [Rk.St.cells] at hu; rcases hu with rfl | rfl | rfl <;> rfl, by decide⟩
abbrev Sts (w : World) (p : Option Addr) (l : List St) : Prop := Els Rk.St.cells 3 w p l
abbrev OwnS (w : World) (base : Nat) (v : Value) (l : List St) : Prop := Own Rk.St.cells 3 52 w base v l

theorem Sts.cells {w : World} {p : Option Addr} {l : List St} (h : Sts w p l) {j : Nat} (hj : j < l.length) : ∃ b o x, p = some ⟨b, o, none⟩ ∧ l[j]? = some x ∧ w.cell? ⟨b, o + j * 3, none⟩ = some (.string x.key) ∧ w.cell? ⟨b, o + j * 3 + 1, none⟩ = some (.string x.val) ∧ w.cell? ⟨b, o + j * 3 + 2, none⟩ = some (.int .i64 x.ts) := by
  obtain ⟨b, o, x, hp, hx, hc⟩ := Els.at h hj
  exact ⟨b, o, x, hp, hx, hc 0 _ rfl, hc 1 _ rfl, hc 2 _ rfl⟩

theorem Sts.ins {w : World} {p : Option Addr} {n c : Nat} {l : List St} (h : Sts w p l) (hn : l.length = n) (hc : n ≤ c) (hm : c ≤ 9223372036854775807) (hnil : p = none → n = 0 ∧ c = 0) : Rk.InS w p n c l :=
  ⟨hn, fun hl => h (by omega), hc, hm, hnil⟩

/-- An image. -/
structure Im where
  ts : Int
  last : ByteArray
  list : List St

namespace Im
def mayE (m : Im) (k : ByteArray) (l : List Vs) : Int := if Rk.Rc.keyE k = 0 then (if Rk.Rc.le k m.last = true then 150 else Vr.check l) else Rk.Rc.keyE k
/-- What its snapshot sees of a key's versions. -/
def sees (m : Im) (l : List Vs) : Option Vs := match Vr.at? l m.ts with | some v => if v.del then none else some v | none => none
def addE (m : Im) (k : ByteArray) (l : List Vs) : Int := if m.mayE k l = 0 then (if (m.sees l).isSome = true ∧ 65536 ≤ m.list.length then 3 else 0) else m.mayE k l
def added (m : Im) (k : ByteArray) (l : List Vs) : Im := if m.addE k l = 0 then ⟨m.ts, k, match m.sees l with | some v => m.list ++ [⟨k, v.val, v.ts⟩] | none => m.list⟩ else m
end Im

/-- The image's block, and its list. -/
structure IsIm (w : World) (base B : Nat) (v : Value) (m : Im) : Prop where
  blk : Bk w B 87 #[.bool true, .int .i64 m.ts, .string m.last, v]
  row : OwnS w base v m.list
  ne : ∀ g, v.ownBlock = some g → g ≠ B

theorem IsIm.tn {S : List Nat} {w w' : World} {base B : Nat} {v : Value} {m : Im} (h : IsIm w base B v m) (ht : Tn S w w') (hB : B ∉ S) (hv : ∀ g, v.ownBlock = some g → g ∉ S) : IsIm w' base B v m :=
  ⟨h.blk.tn ht hB, h.row.tn ht hv, h.ne⟩
theorem IsIm.below {w w' : World} {base B : Nat} {v : Value} {m : Im} (h : IsIm w base B v m) (hb : Below w.heap.size w w') : IsIm w' base B v m :=
  h.tn (Tn.of_below hb []) (by simp) (fun g _ => by simp)
end Go.Proofs.Ytcoibnlecdemcaa
