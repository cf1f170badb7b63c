/- Two disks. -/
import Derived.Test.YtpggnejifpcnmaaDkSame
import Derived.Test.YtpggnejifpcnmaaDkArgs
namespace Go.Proofs.Ytpggnejifpcnmaa
open Go.RowKit Go.Shelf Go.Maps
set_option linter.unusedVariables false

/-- Two disks, from a block on, apart from each other. -/
def Two (w : World) (m B1 B2 : Nat) (d1 d2 : Dk) : Prop := ∃ bs1 bs2, Dsk w B1 bs1 d1 ∧ Dsk w B2 bs2 d2 ∧ (∀ b ∈ bs1, m ≤ b) ∧ (∀ b ∈ bs2, m ≤ b) ∧ ∀ b ∈ bs1, b ∉ bs2

theorem Two.below {w w' : World} {m B1 B2 : Nat} {d1 d2 : Dk} (h : Two w m B1 B2 d1 d2) (k : Below w.heap.size w w') : Two w' m B1 B2 d1 d2 := by
  obtain ⟨bs1, bs2, h1, h2, h3⟩ := h
  exact ⟨bs1, bs2, h1.below k, h2.below k, h3⟩

theorem Two.swap {w : World} {m B1 B2 : Nat} {d1 d2 : Dk} (h : Two w m B1 B2 d1 d2) : Two w m B2 B1 d2 d1 := by
  obtain ⟨bs1, bs2, h1, h2, h3, h4, h5⟩ := h
  exact ⟨bs2, bs1, h2, h1, h4, h3, fun b hb hb' => h5 b hb' hb⟩

theorem Two.turn {w w' : World} {m B1 B2 : Nat} {bs1 bs2 : List Nat} {d1 d2 : Dk} (h : Turns w w' B1 bs1 d1) (h2 : Dsk w B2 bs2 d2) (h3 : ∀ b ∈ bs1, m ≤ b) (h4 : ∀ b ∈ bs2, m ≤ b) (h5 : ∀ b ∈ bs1, b ∉ bs2) (hm : m ≤ w.heap.size) : Two w' m B1 B2 d1 d2 ∧ Below m w w' := by
  obtain ⟨bs', k1, k2, k3⟩ := h
  refine ⟨⟨bs', bs2, k1, h2.tn k2 (fun b hb hb' => h5 b hb' hb), fun b hb => ?_, h4, fun b hb hb' => ?_⟩, k2.below hm h3⟩
  · rcases k3 b hb with h | h
    · exact h3 b h
    · omega
  · rcases k3 b hb with h | h
    · exact h5 b h hb'
    · have := h2.lt b hb'
      omega

section
variable {w : World} {m B1 B2 : Nat} {d1 d2 : Dk}
theorem write2 (h : Two w m B1 B2 d1 d2) (hm : m ≤ w.heap.size) (i : Int) (p : Option Addr) (len c : Nat) (xs : List Int) (hlen : xs.length = len) (hx : Bys w p xs) (hby : ∀ y ∈ xs, 0 ≤ y ∧ y < 256) :
    Calls Try.prog 23 #[.pointer (some ⟨B1, 0, none⟩), .int .i64 i, .slice p len c] w fun e w' => e = .returned (.int .i64 (d1.write i xs).1) ∧ Two w' m B1 B2 (d1.write i xs).2 d2 ∧ Below m w w' := by
  obtain ⟨bs1, bs2, h1, h2, h3, h4, h5⟩ := h
  exact (write_all h1 i p len c xs hlen hx hby).mono fun e w' ⟨he, ht⟩ => ⟨he, Two.turn ht h2 h3 h4 h5 hm⟩
theorem bar2 (h : Two w m B1 B2 d1 d2) (hm : m ≤ w.heap.size) :
    Calls Try.prog 24 #[.pointer (some ⟨B1, 0, none⟩)] w fun e w' => e = .returned (.int .i64 d1.bar.1) ∧ Two w' m B1 B2 d1.bar.2 d2 ∧ Below m w w' := by
  obtain ⟨bs1, bs2, h1, h2, h3, h4, h5⟩ := h
  exact (bar_all h1).mono fun e w' ⟨he, ht⟩ => ⟨he, Two.turn ht h2 h3 h4 h5 hm⟩
theorem crash2 (h : Two w m B1 B2 d1 d2) (hm : m ≤ w.heap.size) (p : Option Addr) (c : Nat) (ks : List Bool) (len : Nat) (hlen : ks.length = len) (hks : Bls w p ks) (hkS : ∀ ad, p = some ad → 0 < ks.length → ad.block < m) :
    Calls Try.prog 25 #[.pointer (some ⟨B1, 0, none⟩), .slice p len c] w fun e w' => e = .returned (.int .i64 (d1.crash ks).1) ∧ Two w' m B1 B2 (d1.crash ks).2 d2 ∧ Below m w w' := by
  obtain ⟨bs1, bs2, h1, h2, h3, h4, h5⟩ := h
  exact (crash_all h1 p c ks len hlen hks (fun ad ha hl hb => by have := h3 _ hb; have := hkS ad ha hl; omega)).mono fun e w' ⟨he, ht⟩ => ⟨he, Two.turn ht h2 h3 h4 h5 hm⟩
theorem setFuse2 (h : Two w m B1 B2 d1 d2) (hm : m ≤ w.heap.size) (n : Int) (hmax : n ≤ 9223372036854775807) (p : Option Addr) (c : Nat) (ks : List Bool) (len : Nat) (hlen : ks.length = len) (hks : Bls w p ks) (hp : p = none → len = 0 ∧ c = 0) (hlm : len ≤ 140737488355328) :
    Calls Try.prog 28 #[.pointer (some ⟨B1, 0, none⟩), .int .i64 n, .slice p len c] w fun e w' => e = .returned (.int .i64 (d1.setFuse n ks).1) ∧ Two w' m B1 B2 (d1.setFuse n ks).2 d2 ∧ Below m w w' := by
  obtain ⟨bs1, bs2, h1, h2, h3, h4, h5⟩ := h
  exact (setFuse_any h1 n hmax p c ks len hlen hks hp hlm).mono fun e w' ⟨he, ht⟩ => ⟨he, Two.turn ht h2 h3 h4 h5 hm⟩
theorem down2 (h : Two w m B1 B2 d1 d2) : Calls Try.prog 13 #[.pointer (some ⟨B1, 0, none⟩)] w fun e w' => e = .returned (.bool d1.down) ∧ w' = w := by
  obtain ⟨bs1, bs2, h1, h2, h3⟩ := h
  exact down_any h1
theorem same2 (h : Two w m B1 B2 d1 d2) : Calls Try.prog 20 #[.pointer (some ⟨B1, 0, none⟩), .pointer (some ⟨B2, 0, none⟩)] w fun e w' => e = .returned (.bool (sameD d1 d2)) ∧ Below w.heap.size w w' := by
  obtain ⟨bs1, bs2, h1, h2, h3⟩ := h
  exact same_any h1 h2
end

theorem two_new {w w1 w2 : World} {B1 B2 : Nat} {bs1 bs2 : List Nat} {d1 d2 : Dk} (h1 : Dsk w1 B1 bs1 d1) (g1 : ∀ b ∈ bs1, w.heap.size ≤ b) (b1 : Below w.heap.size w w1) (h2 : Dsk w2 B2 bs2 d2) (g2 : ∀ b ∈ bs2, w1.heap.size ≤ b) (b2 : Below w1.heap.size w1 w2) : Two w2 w.heap.size B1 B2 d1 d2 :=
  ⟨bs1, bs2, h1.below b2, h2, g1, fun b hb => by have := g2 b hb; have := b1.size; omega, fun b hb hb' => by have := h1.lt b hb; have := g2 b hb'; omega⟩

/-- An operation's cells, as the walk wants them. -/
theorem InOps.at {w : World} {p : Option Addr} {len cap : Nat} {l : List GOp} (h : InOps w p len cap l) {j : Nat} (hj : j < len) : ∃ b o g, p = some ⟨b, o, none⟩ ∧ l[j]? = some g ∧ OpIn w g ∧ b < w.heap.size ∧
    w.cell? ⟨b, o + j * 7, none⟩ = some (.int .i64 g.dd) ∧ w.cell? ⟨b, o + j * 7 + 1, none⟩ = some (.int .i64 g.pl) ∧ w.cell? ⟨b, o + j * 7 + 2, none⟩ = some (.int .u8 g.a) ∧ w.cell? ⟨b, o + j * 7 + 3, none⟩ = some (.int .u8 g.b) ∧ w.cell? ⟨b, o + j * 7 + 4, none⟩ = some (.int .i64 g.n) ∧
    w.cell? ⟨b, o + j * 7 + 5, none⟩ = some (.slice g.kp g.ks.length g.kc) ∧ w.cell? ⟨b, o + j * 7 + 6, none⟩ = some (.slice g.op g.os.length g.oc) := by
  obtain ⟨b, o, rfl, hc⟩ := h.cel (by omega)
  have hjl : j < l.length := by rw [h.lenq]; exact hj
  have hg := List.getElem?_eq_getElem hjl
  refine ⟨b, o, l[j], rfl, hg, h.each _ (List.getElem_mem hjl), ?_, hc j _ hg 0 _ rfl, hc j _ hg 1 _ rfl, hc j _ hg 2 _ rfl, hc j _ hg 3 _ rfl, hc j _ hg 4 _ rfl, hc j _ hg 5 _ rfl, hc j _ hg 6 _ rfl⟩
  exact World.block_lt_of_cell? w _ (hc j _ hg 0 _ rfl)

theorem Bys.belowLt {w w' : World} {p : Option Addr} {xs : List Int} (h : Bys w p xs) {B : Nat} (hb : Below B w w') (hB : w.heap.size ≤ B) : Bys w' p xs := by
  intro hl
  obtain ⟨b, o, rfl, hc⟩ := h hl
  refine ⟨b, o, rfl, fun i hi => ?_⟩
  have hh := hc i hi
  rw [hb.cell (p := ⟨b, o + i, none⟩) (Nat.lt_of_lt_of_le (World.block_lt_of_cell? w _ hh) hB)]
  exact hh

theorem InK.up {w w' : World} {p : Option Addr} {len cap : Nat} {ks : List Bool} (h : InK w p len cap ks) (hb : Below w.heap.size w w') : InK w' p len cap ks := h.below hb h.lt

theorem OpIn.up {w w' : World} {g : GOp} (h : OpIn w g) (hb : Below w.heap.size w w') : OpIn w' g :=
  ⟨h.dd, h.pl, h.a, h.b, h.n, h.ks.up hb, ⟨h.os.lenq, h.os.bys.belowLt hb (Nat.le_refl _), h.os.le, h.os.room, h.os.nil, h.os.byte⟩⟩

theorem InOps.up {w w' : World} {p : Option Addr} {len cap : Nat} {l : List GOp} (h : InOps w p len cap l) (hb : Below w.heap.size w w') : InOps w' p len cap l := by
  refine ⟨h.lenq, fun hl => ?_, fun g hg => (h.each g hg).up hb, h.le, h.room, h.nil⟩
  obtain ⟨b, o, rfl, hc⟩ := h.cel hl
  refine ⟨b, o, rfl, fun i g hi j v hv => ?_⟩
  have hh := hc i g hi j v hv
  rw [hb.cell (p := ⟨b, o + i * 7 + j, none⟩) (World.block_lt_of_cell? w _ hh)]
  exact hh

end Go.Proofs.Ytpggnejifpcnmaa
