import Derived.Test.YtlfgclmgpbaenaaLaid
import Derived.Test.YtlfgclmgpbaenaaRefParse
import Derived.ProofKit
import Derived.OpenShut
import Derived.ShutString
import Derived.ChangeOld
import Derived.SizedLaws
import Derived.JoinedCond
namespace Go.Proofs.Ytlfgclmgpbaenaa
open Go.ChangeShapes Go.WideShapes Go.ChangeAt Go.RowKit
open Go.ChangeMaps (open_string shut_string)
set_option linter.unusedVariables false
set_option maxRecDepth 100000

theorem own : ownKnob Try.prog.godebug = none := by kernel_rfl
theorem laidOut : laidOutB Try.prog = true := by kernel_rfl
theorem bytes_u8 : Try.prog.bytesOf 5 = 1 := by kernel_rfl

/-- A slice of bytes that came in: at most B bytes of room. -/
structure InB (B : Nat) (w : World) (p : Option Addr) (len cap : Nat) (xs : List Int) : Prop where
  lenq : xs.length = len
  bys : Bys w p xs
  le : len ≤ cap
  room : cap ≤ B
  nil : p = none → len = 0 ∧ cap = 0
  byte : ∀ y ∈ xs, 0 ≤ y ∧ y < 256

theorem in_bytes {H : Type} {enc : TypeId × Value → H} {W : World} {a : Option Addr} {len cap : Nat} {d : DataW H} {p : List MemPlace} {B : Nat}
    (h : DataW.Trod enc Try.prog W 0 (fun _ => true) true 42 (.slice a len cap) d p) (hB : ∀ elems spare, d = .slice elems spare → elems.length + spare.length ≤ B) : ∃ xs, InB B W a len cap xs := by
  obtain ⟨fuel, hf⟩ := h
  rcases open_ints Try.underlying42 Try.underlying5 (by kernel_rfl) hf with ⟨hcs, _⟩ | ⟨x, l, c, zs, hcs, _, hl, hm, hz, hx, hcell, hwz⟩
  · simp [Value.cells] at hcs
    obtain ⟨rfl, rfl, rfl⟩ := hcs
    exact ⟨[], rfl, Bys.nil _ _, Nat.le_refl _, Nat.zero_le _, fun _ => ⟨rfl, rfl⟩, by simp⟩
  · simp [Value.cells] at hcs
    obtain ⟨rfl, rfl, rfl⟩ := hcs
    simp only [Prod.mk.injEq] at hx
    have hb := hB _ _ hx.1
    simp only [lits, List.length_map, List.length_take, List.length_drop] at hb
    simp only [if_true] at hz
    refine ⟨zs.take len, by simp; omega, ?_, hl, by omega, (fun e => by cases e), ?_⟩
    · intro hpos
      simp at hpos
      have h0 := hcell 0 (by omega)
      obtain ⟨b, off, spot⟩ := x
      have hspot : spot = none := by simpa [Addr.add] using World.cell?_spot h0
      subst hspot
      refine ⟨b, off, rfl, fun i hi => ?_⟩
      simp at hi
      have := hcell i (by omega)
      rw [Addr.add_lit] at this
      rw [this]
      simp [List.getD, show i < len by omega]
    · intro y hy
      have := bounds_u8 (hwz y (List.mem_of_mem_take hy))
      omega

theorem InB.below {B : Nat} {w w' : World} {p : Option Addr} {len cap : Nat} {xs : List Int} (h : InB B w p len cap xs) (hb : Below w.heap.size w w') : InB B w' p len cap xs :=
  ⟨h.lenq, h.bys.below hb (Nat.le_refl _), h.le, h.room, h.nil, h.byte⟩

/-- Every byte of an int's bytes is a byte. -/
theorem enc_byte (n : Int) (h0 : -9223372036854775808 ≤ n) (h1 : n ≤ 9223372036854775807) : ∀ y ∈ Cd.enc n, 0 ≤ y ∧ y < 256 := by
  intro y hy
  unfold Cd.enc at hy
  have a := Cd.nb_pos n.toNat
  have b := Cd.nb_pos (-1 - n).toNat
  split at hy
  · simp at hy
    omega
  · split at hy
    · rcases List.mem_cons.1 hy with rfl | hy
      · omega
      · exact Cd.be_byte _ _ y hy
    · rcases List.mem_cons.1 hy with rfl | hy
      · omega
      · obtain ⟨z, hz, rfl⟩ := List.mem_map.1 hy
        have := Cd.be_byte _ _ z hz
        omega

theorem app_byte {xs ys : List Int} (hx : ∀ y ∈ xs, 0 ≤ y ∧ y < 256) (hy : ∀ y ∈ ys, 0 ≤ y ∧ y < 256) : ∀ y ∈ xs ++ ys, 0 ≤ y ∧ y < 256 := by
  intro y h
  rcases List.mem_append.1 h with h | h
  · exact hx y h
  · exact hy y h

/-! What the bound of an Upto statement gives. -/
theorem bulk_one {H : Type} (d : DataW H) : 1 ≤ Rows.uptoBulk d := by
  cases d with
  | lit l => cases l <;> simp [Rows.uptoBulk]
  | nil => simp [Rows.uptoBulk]
  | ptr d => simp [Rows.uptoBulk]
  | slice elems spare => simp [Rows.uptoBulk]
  | agg parts => simp [Rows.uptoBulk]
  | iface t d => simp [Rows.uptoBulk]
  | map entries => simp [Rows.uptoBulk]
  | held h => simp [Rows.uptoBulk]

theorem bulk_length {H : Type} (l : List (DataW H)) : l.length ≤ Rows.uptoBulkAll l := by
  induction l with
  | nil => simp [Rows.uptoBulkAll]
  | cons x r ih =>
    have := bulk_one x
    simp only [Rows.uptoBulkAll, List.length_cons]
    omega

theorem bulk_part {H : Type} {d : DataW H} {l : List (DataW H)} (h : d ∈ l) : Rows.uptoBulk d ≤ Rows.uptoBulkAll l := by
  induction l with
  | nil => cases h
  | cons x r ih =>
    simp only [Rows.uptoBulkAll]
    cases List.mem_cons.1 h with
    | inl e => subst e; omega
    | inr e => have := ih e; omega

theorem bulk_bound {H : Type} {l : List (DataW H)} (hk : Rows.uptoSmall H l = true) : Rows.uptoBulkAll l ≤ 1048576 := of_decide_eq_true hk

theorem small_slice {H : Type} {l : List (DataW H)} (hk : Rows.uptoSmall H l = true) {d : DataW H} (hd : d ∈ l) : ∀ elems spare, d = .slice elems spare → elems.length + spare.length ≤ 1048576 := by
  intro elems spare e
  subst e
  have h1 := bulk_part hd
  have h2 := bulk_bound hk
  have h3 := bulk_length elems
  have h4 := bulk_length spare
  simp only [Rows.uptoBulk] at h1
  omega

theorem small_string {H : Type} {l : List (DataW H)} (hk : Rows.uptoSmall H l = true) {s : ByteArray} (hd : DataW.lit (.string s.data.toList) ∈ l) : s.size ≤ 1048576 := by
  have h1 := bulk_part hd
  have h2 := bulk_bound hk
  simp only [Rows.uptoBulk] at h1
  have e : s.data.toList.length = s.size := by rw [Array.length_toList]; rfl
  omega

end Go.Proofs.Ytlfgclmgpbaenaa
