/- Structs that are answered; a key in a page's range; what an entry may have. -/
import Derived.Test.YtoehlgigidgfpaaGreatPgM
import Derived.Test.YtoehlgigidgfpaaGreatPgK
import Derived.Test.YtoehlgigidgfpaaGreatPgKr
import Derived.BigQuiet
namespace Go.Proofs.YtoehlgigidgfpaaGreat
open Go.RowKit
set_option linter.unusedVariables false
set_option maxRecDepth 100000

/-- What is loaded of a block of cells. -/
theorem run_loadVar_cells {w : World} {b : Nat} {T T' : TypeId} {cs : List Value} {n : Nat} (ha : ∀ w, (isAgg T).run Tryz.prog w = .ok true w) (hs : ∀ w, (sizeOf T).run Tryz.prog w = .ok n w) (hn : cs.length = n) (h : Bk w b T' cs.toArray) :
    (loadVar T ⟨b, 0, none⟩).run Tryz.prog w = .ok (.agg cs.toArray) w := by
  have hl := run_loadCells_list (P := Tryz.prog) w ⟨b, 0, none⟩ cs (fun j v hv => by
    rw [Addr.add_lit, Nat.zero_add, h.cell j]
    simpa using hv)
  rw [hn] at hl
  unfold loadVar
  simp only [Sem.run_bind, Result.andThen_ok, ha, hs, hl, if_true]
  rfl

theorem results_one {fn : Func} {t : Tmp} {T T' : TypeId} (h : fn.results = #[.cell t T]) {tmps : Array Value} {w : World} {b : Nat} (ht : tmps.getD t undef = .pointer (some ⟨b, 0, none⟩)) {cs : List Value} {n : Nat}
    (ha : ∀ w, (isAgg T).run Tryz.prog w = .ok true w) (hs : ∀ w, (sizeOf T).run Tryz.prog w = .ok n w) (hn : cs.length = n) (hk : Bk w b T' cs.toArray) : (results fn tmps).run Tryz.prog w = .ok (.agg cs.toArray) w := by
  have ht' : tmps[t]?.getD undef = .pointer (some ⟨b, 0, none⟩) := by simpa using ht
  simp [results, h, ht', asAddr, run_loadVar_cells ha hs hn hk]

theorem results_two {fn : Func} {t u : Tmp} {T T' : TypeId} (h : fn.results = #[.cell t T, .tmp u]) {tmps : Array Value} {w : World} {b : Nat} (ht : tmps.getD t undef = .pointer (some ⟨b, 0, none⟩)) {cs : List Value} {n : Nat}
    (ha : ∀ w, (isAgg T).run Tryz.prog w = .ok true w) (hs : ∀ w, (sizeOf T).run Tryz.prog w = .ok n w) (hn : cs.length = n) (hk : Bk w b T' cs.toArray) : (results fn tmps).run Tryz.prog w = .ok (.tuple #[.agg cs.toArray, tmps.getD u undef]) w := by
  have ht' : tmps[t]?.getD undef = .pointer (some ⟨b, 0, none⟩) := by simpa using ht
  simp [results, h, ht', asAddr, run_loadVar_cells ha hs hn hk]

theorem results_pp {fn : Func} {t u v : Tmp} {T T' : TypeId} (h : fn.results = #[.cell t T, .cell u T, .tmp v]) {tmps : Array Value} {w : World} {b c : Nat} (ht : tmps.getD t undef = .pointer (some ⟨b, 0, none⟩)) (hu : tmps.getD u undef = .pointer (some ⟨c, 0, none⟩)) {cs ds : List Value} {n : Nat}
    (ha : ∀ w, (isAgg T).run Tryz.prog w = .ok true w) (hs : ∀ w, (sizeOf T).run Tryz.prog w = .ok n w) (hn : cs.length = n) (hm : ds.length = n) (hk : Bk w b T' cs.toArray) (hk2 : Bk w c T' ds.toArray) : (results fn tmps).run Tryz.prog w = .ok (.tuple #[.agg cs.toArray, .agg ds.toArray, tmps.getD v undef]) w := by
  have ht' : tmps[t]?.getD undef = .pointer (some ⟨b, 0, none⟩) := by simpa using ht
  have hu' : tmps[u]?.getD undef = .pointer (some ⟨c, 0, none⟩) := by simpa using hu
  simp [results, h, ht', hu', asAddr, run_loadVar_cells ha hs hn hk, run_loadVar_cells ha hs hm hk2]

theorem Bk.new1 (w : World) (o : Obj) (t : TypeId) (cs : Array Value) : Bk ((w.alloc o).alloc (.cells cs t)) (w.heap.size + 1) t cs := by
  have := Bk.new (w.alloc o) t cs
  rwa [show (w.alloc o).heap.size = w.heap.size + 1 by simp] at this
theorem Bk.new2 (w : World) (o o2 : Obj) (t : TypeId) (cs : Array Value) : Bk (((w.alloc o).alloc o2).alloc (.cells cs t)) (w.heap.size + 1 + 1) t cs := by
  have := Bk.new1 (w.alloc o) o2 t cs
  rwa [show (w.alloc o).heap.size = w.heap.size + 1 by simp] at this

theorem pg_agg (w : World) : (isAgg 29).run Tryz.prog w = .ok true w := by kernel_rfl
theorem pg_size (w : World) : (sizeOf 29).run Tryz.prog w = .ok 5 w := by kernel_rfl
theorem en_agg (w : World) : (isAgg 33).run Tryz.prog w = .ok true w := by kernel_rfl
theorem en_size (w : World) : (sizeOf 33).run Tryz.prog w = .ok 4 w := by kernel_rfl
theorem rg_agg (w : World) : (isAgg 117).run Tryz.prog w = .ok true w := by kernel_rfl
theorem rg_size (w : World) : (sizeOf 117).run Tryz.prog w = .ok 2 w := by kernel_rfl

/-- A page's cells. -/
abbrev pgc (leaf : Bool) (lo hi : ByteArray) (r : Int) (p : Option Addr) (len cap : Nat) : Array Value := #[.bool leaf, .string lo, .string hi, .int .i64 r, .slice p len cap]

section
variable (leaf : Bool) (lo hi : ByteArray) (r : Int) (p : Option Addr) (len cap : Nat) (w : World)

theorem span_any : Calls Tryz.prog 84 #[pgv leaf lo hi r p len cap] w fun e w' => e = .returned (Rg.mk lo hi).val ∧ Below w.heap.size w w' := by
  have HB : Hid (Below w.heap.size w ((w.alloc (.cells (pgc leaf lo hi r p len cap) 29)).alloc (.cells #[.string lo, .string hi] 117))) := ((Below.refl _ _).alloc (Nat.le_refl _) _).alloc (by simp) _
  go_enter Tryz.func84, Tryz.ntmps84
  go_wp2
  refine bodyPost_ret (results_one (cs := [.string lo, .string hi]) rfl rfl rg_agg rg_size rfl (Bk.new1 _ _ _ _)) rfl ?_
  exact ⟨rfl, HB.out⟩

theorem has_any (key : ByteArray) : Calls Tryz.prog 111 #[pgv leaf lo hi r p len cap, .string key] w fun e w' => e = .returned (.bool (Ky.inn ⟨lo, hi⟩ key)) ∧ Below w.heap.size w w' := by
  have hb0 : Below w.heap.size w (w.alloc (.cells (pgc leaf lo hi r p len cap) 29)) := (Below.refl _ _).alloc (Nat.le_refl _) _
  go_enter Tryz.func111, Tryz.ntmps111
  go_wp2_with fail
  refine (span_any leaf lo hi r p len cap _).mono ?_
  rintro e w1 ⟨rfl, hb1⟩
  have HB1 : Hid (Below w.heap.size w w1) := hb0.trans (hb1.mono hb0.size)
  clear hb1
  go_wp2_with fail
  refine (in_any ⟨lo, hi⟩ key _).mono ?_
  rintro e w2 ⟨rfl, hb2⟩
  have HB2 : Hid (Below w.heap.size w w2) := HB1.out.trans (hb2.mono HB1.out.size)
  clear hb2
  go_wp2
  go_ret
  exact ⟨rfl, HB2.out⟩

theorem rrange_any : Calls Tryz.prog 53 #[pgv leaf lo hi r p len cap] w fun e w' => e = .returned (Rg.mk lo hi).val ∧ Below w.heap.size w w' := by
  have HB : Hid (Below w.heap.size w ((w.alloc (.cells (pgc leaf lo hi r p len cap) 29)).alloc (.cells #[.string lo, .string hi] 117))) := ((Below.refl _ _).alloc (Nat.le_refl _) _).alloc (by simp) _
  go_enter Tryz.func53, Tryz.ntmps53
  go_wp2
  refine bodyPost_ret (results_one (cs := [.string lo, .string hi]) rfl rfl rg_agg rg_size rfl (Bk.new1 _ _ _ _)) rfl ?_
  exact ⟨rfl, HB.out⟩

theorem rhas_any (key : ByteArray) : Calls Tryz.prog 54 #[pgv leaf lo hi r p len cap, .string key] w fun e w' => e = .returned (.bool (Ky.inn ⟨lo, hi⟩ key)) ∧ Below w.heap.size w w' := by
  have hb0 : Below w.heap.size w (w.alloc (.cells (pgc leaf lo hi r p len cap) 29)) := (Below.refl _ _).alloc (Nat.le_refl _) _
  go_enter Tryz.func54, Tryz.ntmps54
  go_wp2_with fail
  refine (rrange_any leaf lo hi r p len cap _).mono ?_
  rintro e w1 ⟨rfl, hb1⟩
  have HB1 : Hid (Below w.heap.size w w1) := hb0.trans (hb1.mono hb0.size)
  clear hb1
  go_wp2_with fail
  refine (rin_any ⟨lo, hi⟩ key _).mono ?_
  rintro e w2 ⟨rfl, hb2⟩
  have HB2 : Hid (Below w.heap.size w w2) := HB1.out.trans (hb2.mono HB1.out.size)
  clear hb2
  go_wp2
  go_ret
  exact ⟨rfl, HB2.out⟩
end

/-- What an entry of a leaf, or of an inner page, may have. -/
def Pg.kind (leaf : Bool) (e : En) : Bool := if leaf then e.c == 0 else (e.s == 0 && e.g == 0) && decide (1 ≤ e.c)

theorem kind_any (leaf : Bool) (e : En) (w : World) : Calls Tryz.prog 112 #[.bool leaf, e.val] w fun r w' => r = .returned (.bool (Pg.kind leaf e)) ∧ Below w.heap.size w w' := by
  have HB : Hid (Below w.heap.size w (w.alloc (.cells #[.string e.key, .int .i64 e.s, .int .i64 e.g, .int .i64 e.c] 33))) := (Below.refl _ _).alloc (Nat.le_refl _) _
  have HK : Hid (Pg.kind leaf e = if leaf = true then e.c == 0 else (e.s == 0 && e.g == 0) && decide (1 ≤ e.c)) := rfl
  obtain ⟨k, s, g, c⟩ := e
  simp only at HB HK ⊢
  cases leaf with
  | true =>
    go_enter Tryz.func112, Tryz.ntmps112
    go_wp2
    go_ret
    exact ⟨by rw [HK.out]; rfl, HB.out⟩
  | false =>
    by_cases h1 : s = 0
    · subst h1
      by_cases h2 : g = 0
      · subst h2
        go_enter Tryz.func112, Tryz.ntmps112
        go_wp2
        go_ret
        exact ⟨by rw [HK.out]; simp, HB.out⟩
      · go_enter Tryz.func112, Tryz.ntmps112
        go_wp2
        go_ret
        exact ⟨by rw [HK.out]; simp [h2], HB.out⟩
    · go_enter Tryz.func112, Tryz.ntmps112
      go_wp2
      go_ret
      exact ⟨by rw [HK.out]; simp [h1], HB.out⟩

end Go.Proofs.YtoehlgigidgfpaaGreat
