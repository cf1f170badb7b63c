/- Disks beside other memory: each call, whatever it answers. -/
import Derived.Test.YtpggnejifpcnmaaDkBegun
namespace Go.Proofs.Ytpggnejifpcnmaa
open Go.RowKit Go.Shelf Go.Maps
set_option linter.unusedVariables false

/-- A write. -/
def Dk.write (d : Dk) (i : Int) (xs : List Int) : Int × Dk := if d.reach i ≠ 0 then (d.reach i, d) else if xs.length ≠ 512 then (1, d) else d.wrote i.toNat xs
/-- A barrier. -/
def Dk.bar (d : Dk) : Int × Dk := if d.down = true then (6, d) else d.barrier
/-- A crash. -/
def Dk.crash (d : Dk) (ks : List Bool) : Int × Dk := if d.down = true then (6, d) else (0, d.lose ks)

theorem write_all {w : World} {B : Nat} {bs : List Nat} {d : Dk} (h : Dsk w B bs d) (i : Int) (p : Option Addr) (len c : Nat) (xs : List Int) (hlen : xs.length = len) (hx : Bys w p xs) (hby : ∀ y ∈ xs, 0 ≤ y ∧ y < 256) :
    Calls Try.prog 23 #[.pointer (some ⟨B, 0, none⟩), .int .i64 i, .slice p len c] w fun e w' => e = .returned (.int .i64 (d.write i xs).1) ∧ Turns w w' B bs (d.write i xs).2 := by
  unfold Dk.write
  by_cases hr : d.reach i = 0
  · obtain ⟨hd, k, rfl, hk⟩ := Dk.reach_ok hr
    simp only [hr, ne_eq, not_true_eq_false, if_false]
    by_cases h5 : xs.length = 512
    · simp only [h5, not_true_eq_false, if_false, Int.toNat_natCast]
      obtain ⟨b, o, rfl, hc⟩ := hx (by omega)
      rw [← hlen, h5]
      exact write_ok h hd k hk b o c xs ⟨h5, hby⟩ (fun j hj => hc j (by omega))
    · simp only [h5, not_false_eq_true, if_true]
      exact (write_len h k hr p len c (by omega)).mono fun e w' ⟨he, hw⟩ => ⟨he, by subst hw; exact Turns.refl h⟩
  · simp only [hr, ne_eq, not_false_eq_true, if_true]
    exact (write_bad h i _ hr).mono fun e w' ⟨he, hw⟩ => ⟨he, by subst hw; exact Turns.refl h⟩

theorem bar_all {w : World} {B : Nat} {bs : List Nat} {d : Dk} (h : Dsk w B bs d) :
    Calls Try.prog 24 #[.pointer (some ⟨B, 0, none⟩)] w fun e w' => e = .returned (.int .i64 d.bar.1) ∧ Turns w w' B bs d.bar.2 := by
  unfold Dk.bar
  cases hd : d.down with
  | true => exact (barrier_down h hd).mono fun e w' ⟨he, hw⟩ => ⟨he, by subst hw; exact Turns.refl h⟩
  | false => exact barrier_up h hd

theorem crash_all {w : World} {B : Nat} {bs : List Nat} {d : Dk} (h : Dsk w B bs d) (p : Option Addr) (c : Nat) (ks : List Bool) (len : Nat) (hlen : ks.length = len) (hks : Bls w p ks) (hkS : ∀ ad, p = some ad → 0 < ks.length → ad.block ∉ bs) :
    Calls Try.prog 25 #[.pointer (some ⟨B, 0, none⟩), .slice p len c] w fun e w' => e = .returned (.int .i64 (d.crash ks).1) ∧ Turns w w' B bs (d.crash ks).2 := by
  unfold Dk.crash
  cases hd : d.down with
  | true => exact (crash_down h hd _).mono fun e w' ⟨he, hw⟩ => ⟨he, by subst hw; exact Turns.refl h⟩
  | false => exact crash_up h hd p c ks len hlen hks hkS

/-- What is read. -/
theorem read_all {w : World} {B : Nat} {bs : List Nat} {d : Dk} (h : Dsk w B bs d) (i : Int) :
    Calls Try.prog 26 #[.pointer (some ⟨B, 0, none⟩), .int .i64 i] w fun e w' => ∃ v, e = .returned (.tuple #[v, .int .i64 (d.reach i)]) ∧ Below w.heap.size w w' ∧
      (d.reach i ≠ 0 → v = .slice none 0 0) ∧ (d.reach i = 0 → ∃ g, v = .slice (some ⟨g, 0, none⟩) 512 512 ∧ w.heap.size ≤ g ∧ Bk w' g 5 (secCells (d.last i.toNat))) := by
  by_cases hr : d.reach i = 0
  · obtain ⟨hd, k, rfl, hk⟩ := Dk.reach_ok hr
    refine (read_ok h k hk hd).mono fun e w' ⟨g, he, hg, hb, hbel⟩ => ⟨_, by rw [hr]; exact he, hbel, fun h => absurd hr h, fun _ => ⟨g, rfl, hg, by rw [Int.toNat_natCast]; exact hb⟩⟩
  · refine (read_bad h i hr).mono fun e w' ⟨he, hw⟩ => ⟨_, he, by subst hw; exact Below.refl _ _, fun _ => rfl, fun h => absurd h hr⟩

/-- A disk whose blocks lie from m on, and are none of some others. -/
def Sep (w : World) (m B : Nat) (d : Dk) (av : List Nat) : Prop := ∃ bs, Dsk w B bs d ∧ (∀ b ∈ bs, m ≤ b) ∧ ∀ g ∈ av, g ∉ bs ∧ g < w.heap.size

theorem Turns.sep {w w' : World} {m B : Nat} {bs : List Nat} {d : Dk} {av : List Nat} (h : Turns w w' B bs d) (hm : ∀ b ∈ bs, m ≤ b) (hw : m ≤ w.heap.size) (hav : ∀ g ∈ av, g ∉ bs ∧ g < w.heap.size) :
    Sep w' m B d av ∧ Below m w w' ∧ ∀ g ∈ av, w'.heap[g]? = w.heap[g]? := by
  obtain ⟨bs', h1, h2, h3⟩ := h
  refine ⟨⟨bs', h1, fun b hb => ?_, fun g hg => ⟨fun hb => ?_, ?_⟩⟩, h2.below hw hm, fun g hg => h2.block g (hav g hg).2 (hav g hg).1⟩
  · rcases h3 b hb with h | h
    · exact hm b h
    · omega
  · rcases h3 g hb with h | h
    · exact (hav g hg).1 h
    · have := (hav g hg).2
      omega
  · have := (hav g hg).2
    have := h2.size
    omega

theorem Sep.of {w : World} {m B : Nat} {d : Dk} (h : DskF w m B d) : Sep w m B d [] := by
  obtain ⟨bs, h1, h2⟩ := h
  exact ⟨bs, h1, h2, fun g hg => by cases hg⟩

theorem Sep.below {w w' : World} {m B : Nat} {d : Dk} {av : List Nat} (h : Sep w m B d av) (k : Below w.heap.size w w') : Sep w' m B d av := by
  obtain ⟨bs, h1, h2, h3⟩ := h
  exact ⟨bs, h1.below k, h2, fun g hg => ⟨(h3 g hg).1, Nat.lt_of_lt_of_le (h3 g hg).2 k.size⟩⟩

/-- A new block is none of the disk's. -/
theorem Sep.add {w w' : World} {m B : Nat} {d : Dk} {av : List Nat} (h : Sep w m B d av) (k : Below w.heap.size w w') {g : Nat} (hg : w.heap.size ≤ g) (hg' : g < w'.heap.size) : Sep w' m B d (g :: av) := by
  obtain ⟨bs, h1, h2, h3⟩ := h
  refine ⟨bs, h1.below k, h2, fun x hx => ?_⟩
  rcases List.mem_cons.1 hx with rfl | hx
  · exact ⟨fun hb => by have := h1.lt x hb; omega, hg'⟩
  · exact ⟨(h3 x hx).1, Nat.lt_of_lt_of_le (h3 x hx).2 k.size⟩

/-- A block that lay below is none of the disk's. -/
theorem Sep.low {w : World} {m B : Nat} {d : Dk} {av : List Nat} (h : Sep w m B d av) (hm : m ≤ w.heap.size) {g : Nat} (hg : g < m) : Sep w m B d (g :: av) := by
  obtain ⟨bs, h1, h2, h3⟩ := h
  refine ⟨bs, h1, h2, fun x hx => ?_⟩
  rcases List.mem_cons.1 hx with rfl | hx
  · exact ⟨fun hb => by have := h2 x hb; omega, by omega⟩
  · exact h3 x hx

/-- One of the others is written. -/
theorem Sep.other {w w' : World} {m B : Nat} {d : Dk} {av : List Nat} (h : Sep w m B d av) {T : List Nat} (k : Tn T w w') (hT : ∀ g ∈ T, g ∈ av) : Sep w' m B d av := by
  obtain ⟨bs, h1, h2, h3⟩ := h
  exact ⟨bs, h1.tn k (fun b hb ht => (h3 b (hT b ht)).1 hb), h2, fun g hg => ⟨(h3 g hg).1, Nat.lt_of_lt_of_le (h3 g hg).2 k.size⟩⟩

theorem Sep.fewer {w : World} {m B : Nat} {d : Dk} {av av' : List Nat} (h : Sep w m B d av) (hs : ∀ g ∈ av', g ∈ av) : Sep w m B d av' := by
  obtain ⟨bs, h1, h2, h3⟩ := h
  exact ⟨bs, h1, h2, fun g hg => h3 g (hs g hg)⟩

theorem Sep.dsk {w : World} {m B : Nat} {d : Dk} {av : List Nat} (h : Sep w m B d av) : ∃ bs, Dsk w B bs d := ⟨_, h.choose_spec.1⟩

section
variable {w : World} {m B : Nat} {d : Dk} {av : List Nat}
theorem writeS (h : Sep w m B d av) (hm : m ≤ w.heap.size) (i : Int) (p : Option Addr) (len c : Nat) (xs : List Int) (hlen : xs.length = len) (hx : Bys w p xs) (hby : ∀ y ∈ xs, 0 ≤ y ∧ y < 256) :
    Calls Try.prog 23 #[.pointer (some ⟨B, 0, none⟩), .int .i64 i, .slice p len c] w fun e w' => e = .returned (.int .i64 (d.write i xs).1) ∧ Sep w' m B (d.write i xs).2 av ∧ Below m w w' ∧ ∀ g ∈ av, w'.heap[g]? = w.heap[g]? := by
  obtain ⟨bs, h1, h2, h3⟩ := h
  exact (write_all h1 i p len c xs hlen hx hby).mono fun e w' ⟨he, ht⟩ => ⟨he, ht.sep h2 hm h3⟩
theorem barS (h : Sep w m B d av) (hm : m ≤ w.heap.size) :
    Calls Try.prog 24 #[.pointer (some ⟨B, 0, none⟩)] w fun e w' => e = .returned (.int .i64 d.bar.1) ∧ Sep w' m B d.bar.2 av ∧ Below m w w' ∧ ∀ g ∈ av, w'.heap[g]? = w.heap[g]? := by
  obtain ⟨bs, h1, h2, h3⟩ := h
  exact (bar_all h1).mono fun e w' ⟨he, ht⟩ => ⟨he, ht.sep h2 hm h3⟩
theorem crashS (h : Sep w m B d av) (hm : m ≤ w.heap.size) (p : Option Addr) (c : Nat) (ks : List Bool) (len : Nat) (hlen : ks.length = len) (hks : Bls w p ks) (hkS : ∀ ad, p = some ad → 0 < ks.length → ad.block < m ∨ ad.block ∈ av) :
    Calls Try.prog 25 #[.pointer (some ⟨B, 0, none⟩), .slice p len c] w fun e w' => e = .returned (.int .i64 (d.crash ks).1) ∧ Sep w' m B (d.crash ks).2 av ∧ Below m w w' ∧ ∀ g ∈ av, w'.heap[g]? = w.heap[g]? := by
  obtain ⟨bs, h1, h2, h3⟩ := h
  refine (crash_all h1 p c ks len hlen hks (fun ad ha hl hb => ?_)).mono fun e w' ⟨he, ht⟩ => ⟨he, ht.sep h2 hm h3⟩
  rcases hkS ad ha hl with h | h
  · have := h2 _ hb
    omega
  · exact (h3 _ h).1 hb
theorem setFuseS (h : Sep w m B d av) (hm : m ≤ w.heap.size) (n : Int) (hmax : n ≤ 9223372036854775807) (p : Option Addr) (c : Nat) (ks : List Bool) (len : Nat) (hlen : ks.length = len) (hks : Bls w p ks) (hp : p = none → len = 0 ∧ c = 0) (hlm : len ≤ 140737488355328) :
    Calls Try.prog 28 #[.pointer (some ⟨B, 0, none⟩), .int .i64 n, .slice p len c] w fun e w' => e = .returned (.int .i64 (d.setFuse n ks).1) ∧ Sep w' m B (d.setFuse n ks).2 av ∧ Below m w w' ∧ ∀ g ∈ av, w'.heap[g]? = w.heap[g]? := by
  obtain ⟨bs, h1, h2, h3⟩ := h
  exact (setFuse_any h1 n hmax p c ks len hlen hks hp hlm).mono fun e w' ⟨he, ht⟩ => ⟨he, ht.sep h2 hm h3⟩
theorem restartS (h : Sep w m B d av) (hm : m ≤ w.heap.size) :
    Calls Try.prog 18 #[.pointer (some ⟨B, 0, none⟩)] w fun e w' => e = .returned (.int .i64 0) ∧ Sep w' m B { d with down := false } av ∧ Below m w w' ∧ ∀ g ∈ av, w'.heap[g]? = w.heap[g]? := by
  obtain ⟨bs, h1, h2, h3⟩ := h
  exact (restart_any h1).mono fun e w' ⟨he, ht⟩ => ⟨he, ht.sep h2 hm h3⟩
theorem readS (h : Sep w m B d av) (i : Nat) (hi : i < d.n) (hd : d.down = false) :
    Calls Try.prog 26 #[.pointer (some ⟨B, 0, none⟩), .int .i64 (i : Int)] w fun e w' => ∃ g, e = .returned (.tuple #[.slice (some ⟨g, 0, none⟩) 512 512, .int .i64 0]) ∧ w.heap.size ≤ g ∧ Bk w' g 5 (secCells (d.last i)) ∧ Sep w' m B d (g :: av) ∧ Below w.heap.size w w' := by
  have h0 := h
  obtain ⟨bs, h1, h2, h3⟩ := h
  exact (read_ok h1 i hi hd).mono fun e w' ⟨g, he, hg, hb, hbel⟩ => ⟨g, he, hg, hb, h0.add hbel hg hb.lt, hbel⟩
end

/-- The n sectors of a disk are as many as they were. -/
theorem Dk.write_n (d : Dk) (i : Int) (xs : List Int) : (d.write i xs).2.n = d.n := by
  unfold Dk.write Dk.wrote Dk.count Dk.lose
  repeat (first | rfl | split)

end Go.Proofs.Ytpggnejifpcnmaa
