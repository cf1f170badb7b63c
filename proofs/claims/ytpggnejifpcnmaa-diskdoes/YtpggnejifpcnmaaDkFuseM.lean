/- A disk with a fuse, beside one with none. -/
import Derived.Test.YtpggnejifpcnmaaDkTwo
namespace Go.Proofs.Ytpggnejifpcnmaa
open Go.RowKit Go.Shelf Go.Maps
set_option linter.unusedVariables false

/-- A disk with a fuse. -/
def fz (c : Dk) (l : Int) (ks : List Bool) : Dk := { c with left := l, keep := ks }

/-- A disk that is up, and has no fuse. -/
structure Plain (c : Dk) (n : Nat) : Prop where
  n : c.n = n
  up : c.down = false
  left : c.left = 0

theorem Plain.fresh (n : Nat) : Plain (Dk.fresh n) n := ⟨rfl, rfl, rfl⟩

theorem Plain.bar {c : Dk} {n : Nat} (h : Plain c n) : c.bar = (0, c.flush) ∧ Plain c.flush n := by
  refine ⟨?_, h.n, h.up, h.left⟩
  rw [Dk.bar, if_neg (by simp [h.up]), Dk.barrier_free h.left]

theorem Plain.write {c : Dk} {n : Nat} (h : Plain c n) (i : Int) (xs : List Int) (hx : xs.length = 512) : (c.reach i ≠ 0 ∧ c.write i xs = (c.reach i, c)) ∨ (c.reach i = 0 ∧ c.write i xs = (0, c.put i.toNat xs) ∧ Plain (c.put i.toNat xs) n) := by
  unfold Dk.write
  by_cases hr : c.reach i = 0
  · right
    exact ⟨hr, by rw [if_neg (by simp [hr]), if_neg (by simp [hx]), Dk.wrote_free h.left], h.n, h.up, h.left⟩
  · left
    exact ⟨hr, by rw [if_pos hr]⟩

theorem sameD_of {a b : Dk} (hn : a.n = b.n) (h : ∀ i, a.last i = b.last i) : sameD a b = true := by
  unfold sameD
  rw [Bool.and_eq_true]
  exact ⟨decide_eq_true hn, List.all_eq_true.2 fun i _ => decide_eq_true (h i)⟩

theorem fz_bar {c : Dk} {n : Nat} (h : Plain c n) {l : Int} (hl : 1 < l) (ks : List Bool) : (fz c l ks).bar = (0, fz c.flush (l - 1) ks) := by
  have h0 : ¬ l = 0 := by omega
  have h1 : ¬ l = 1 := by omega
  rw [Dk.bar, if_neg (by simp [fz, h.up])]
  simp [Dk.barrier, Dk.count, fz, h0, h1, Dk.flush]
  rfl

theorem fz_bar1 {c : Dk} {n : Nat} (h : Plain c n) (ks : List Bool) : (fz c 1 ks).bar.1 = 6 ∧ (fz c 1 ks).bar.2.down = true ∧ (c.crash ks).1 = 0 ∧ sameD (c.crash ks).2 (fz c 1 ks).bar.2 = true := by
  have e : (fz c 1 ks).bar = (6, ({ fz c 1 ks with calls := wrap64 (c.calls + 1), left := 0 } : Dk).lose ks) := by
    rw [Dk.bar, if_neg (by simp [fz, h.up])]
    simp [Dk.barrier, Dk.count, fz]
  rw [e, Dk.crash, if_neg (by simp [h.up])]
  exact ⟨rfl, rfl, rfl, sameD_of rfl fun i => rfl⟩

theorem fz_reach {c : Dk} (l : Int) (ks : List Bool) (i : Int) : (fz c l ks).reach i = c.reach i := rfl

theorem fz_bad {c : Dk} (l : Int) (ks : List Bool) (i : Int) (xs : List Int) (hr : c.reach i ≠ 0) : (fz c l ks).write i xs = (c.reach i, fz c l ks) := by
  rw [Dk.write, if_pos (by rw [fz_reach]; exact hr), fz_reach]

theorem fz_write {c : Dk} {n : Nat} {l : Int} (hl : 1 < l) (ks : List Bool) (i : Int) (xs : List Int) (hx : xs.length = 512) (hr : c.reach i = 0) : (fz c l ks).write i xs = (0, fz (c.put i.toNat xs) (l - 1) ks) := by
  have h0 : ¬ l = 0 := by omega
  have h1 : ¬ l = 1 := by omega
  rw [Dk.write, if_neg (by rw [fz_reach]; simp [hr]), if_neg (by simp [hx])]
  simp [Dk.wrote, Dk.count, fz, h0, h1, Dk.put]

theorem fz_write1 {c : Dk} {n : Nat} (h : Plain c n) (ks : List Bool) (i : Int) (xs : List Int) (hx : xs.length = 512) (hr : c.reach i = 0) : ((fz c 1 ks).write i xs).1 = 6 ∧ ((fz c 1 ks).write i xs).2.down = true ∧ ((c.put i.toNat xs).crash ks).1 = 0 ∧ sameD ((c.put i.toNat xs).crash ks).2 ((fz c 1 ks).write i xs).2 = true := by
  have e : (fz c 1 ks).write i xs = (6, ({ fz c 1 ks with dirty := upd c.dirty i.toNat xs, calls := wrap64 (c.calls + 1), left := 0 } : Dk).lose ks) := by
    rw [Dk.write, if_neg (by rw [fz_reach]; simp [hr]), if_neg (by simp [hx])]
    simp [Dk.wrote, Dk.count, fz]
  rw [e, Dk.crash, if_neg (by simp [Dk.put, h.up])]
  exact ⟨rfl, rfl, rfl, sameD_of rfl fun i => rfl⟩

/-- Two disks, and a block that is neither's. -/
def TwoG (w : World) (m B1 B2 : Nat) (d1 d2 : Dk) (g : Nat) : Prop := ∃ bs1 bs2, Dsk w B1 bs1 d1 ∧ Dsk w B2 bs2 d2 ∧ (∀ b ∈ bs1, m ≤ b) ∧ (∀ b ∈ bs2, m ≤ b) ∧ (∀ b ∈ bs1, b ∉ bs2) ∧ g ∉ bs1 ∧ g ∉ bs2 ∧ g < w.heap.size

theorem TwoG.two {w : World} {m B1 B2 g : Nat} {d1 d2 : Dk} (h : TwoG w m B1 B2 d1 d2 g) : Two w m B1 B2 d1 d2 := by
  obtain ⟨bs1, bs2, h1, h2, h3, h4, h5, _⟩ := h
  exact ⟨bs1, bs2, h1, h2, h3, h4, h5⟩

theorem TwoG.below {w w' : World} {m B1 B2 g : Nat} {d1 d2 : Dk} (h : TwoG w m B1 B2 d1 d2 g) (k : Below w.heap.size w w') : TwoG w' m B1 B2 d1 d2 g := by
  obtain ⟨bs1, bs2, h1, h2, h3, h4, h5, h6, h7, h8⟩ := h
  exact ⟨bs1, bs2, h1.below k, h2.below k, h3, h4, h5, h6, h7, Nat.lt_of_lt_of_le h8 k.size⟩

theorem TwoG.swap {w : World} {m B1 B2 g : Nat} {d1 d2 : Dk} (h : TwoG w m B1 B2 d1 d2 g) : TwoG w m B2 B1 d2 d1 g := by
  obtain ⟨bs1, bs2, h1, h2, h3, h4, h5, h6, h7, h8⟩ := h
  exact ⟨bs2, bs1, h2, h1, h4, h3, fun b hb hb' => h5 b hb' hb, h7, h6, h8⟩

theorem Two.with {w w' : World} {m B1 B2 g : Nat} {d1 d2 : Dk} (h : Two w m B1 B2 d1 d2) (k : Below w.heap.size w w') (hg : w.heap.size ≤ g) (hg' : g < w'.heap.size) : TwoG w' m B1 B2 d1 d2 g := by
  obtain ⟨bs1, bs2, h1, h2, h3, h4, h5⟩ := h
  exact ⟨bs1, bs2, h1.below k, h2.below k, h3, h4, h5, fun hb => by have := h1.lt g hb; omega, fun hb => by have := h2.lt g hb; omega, hg'⟩

theorem write2g {w : World} {m B1 B2 g : Nat} {d1 d2 : Dk} (h : TwoG w m B1 B2 d1 d2 g) (hm : m ≤ w.heap.size) (i : Int) (p : Option Addr) (len c : Nat) (xs : List Int) (hlen : xs.length = len) (hx : Bys w p xs) (hby : ∀ y ∈ xs, 0 ≤ y ∧ y < 256) :
    Calls Try.prog 23 #[.pointer (some ⟨B1, 0, none⟩), .int .i64 i, .slice p len c] w fun e w' => e = .returned (.int .i64 (d1.write i xs).1) ∧ TwoG w' m B1 B2 (d1.write i xs).2 d2 g ∧ Below m w w' ∧ w'.heap[g]? = w.heap[g]? := by
  obtain ⟨bs1, bs2, h1, h2, h3, h4, h5, h6, h7, h8⟩ := h
  refine (write_all h1 i p len c xs hlen hx hby).mono fun e w' ⟨he, ht⟩ => ?_
  obtain ⟨_, hb⟩ := Two.turn ht h2 h3 h4 h5 hm
  obtain ⟨bs', k1, k2, k3⟩ := ht
  refine ⟨he, ⟨bs', bs2, k1, h2.tn k2 (fun b hb hb' => h5 b hb' hb), fun b hb => ?_, h4, fun b hb hb' => ?_, fun hb => ?_, h7, Nat.lt_of_lt_of_le h8 k2.size⟩, hb, k2.block g h8 h6⟩
  · rcases k3 b hb with h | h
    · exact h3 b h
    · omega
  · rcases k3 b hb with h | h
    · exact h5 b h hb'
    · have := h2.lt b hb'
      omega
  · rcases k3 g hb with h | h
    · exact h6 h
    · omega

/-- An operation's box. -/
theorem op_box {w : World} {g : Nat} {o : GOp} (h : Bk w g 34 o.cells.toArray) : w.cell? ⟨g, 1, none⟩ = some (.int .i64 o.pl) ∧ w.cell? ⟨g, 2, none⟩ = some (.int .u8 o.a) ∧ w.cell? ⟨g, 3, none⟩ = some (.int .u8 o.b) := by
  refine ⟨?_, ?_, ?_⟩ <;> (rw [h.cell]; rfl)

end Go.Proofs.Ytpggnejifpcnmaa
