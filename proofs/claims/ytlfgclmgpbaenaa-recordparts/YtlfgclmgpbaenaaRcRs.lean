/- Reading records off bytes, as plain data. -/
import Derived.Test.YtlfgclmgpbaenaaRcFill
import Derived.Test.YtlfgclmgpbaenaaRcBytes
import Derived.Test.YtlfgclmgpbaenaaFlag
import Derived.Test.YtlfgclmgpbaenaaText
namespace Go.Proofs.Ytlfgclmgpbaenaa
open Go.RowKit
set_option linter.unusedVariables false
set_option maxRecDepth 100000

/-- What is left to be read, and the first error. -/
structure Rs where
  xs : List Int
  e : Int

namespace Rs
def num (s : Rs) : Int × Rs := if s.e = 0 then ((Cd.dec s.xs).1, ⟨s.xs.drop (Cd.dec s.xs).2.1.toNat, (Cd.dec s.xs).2.2⟩) else (0, s)
def text (s : Rs) : ByteArray × Rs := if s.e = 0 then (strOfNums (Cd.decT s.xs).1, ⟨s.xs.drop (Cd.decT s.xs).2.1.toNat, (Cd.decT s.xs).2.2⟩) else (.empty, s)
def flag (s : Rs) : Bool × Rs := if s.e = 0 then ((Cd.decF s.xs).1, ⟨s.xs.drop (Cd.decF s.xs).2.1.toNat, (Cd.decF s.xs).2.2⟩) else (false, s)
def note (s : Rs) (e : Int) : Rs := if s.e = 0 then ⟨s.xs, e⟩ else s
def count (s : Rs) (most : Int) : Int × Rs := if Rc.inn 0 s.num.1 most = true then s.num else (0, s.num.2.note 32)
def write (s : Rs) : Wr × Rs :=
  (⟨s.text.1, s.text.2.flag.2.text.1, s.text.2.flag.1⟩, s.text.2.flag.2.text.2.note (Rc.wrE ⟨s.text.1, s.text.2.flag.2.text.1, s.text.2.flag.1⟩))
def stamped (s : Rs) : St × Rs := (⟨s.text.1, s.text.2.text.1, s.text.2.text.2.num.1⟩, s.text.2.text.2.num.2)
def writes : Nat → Rs → List Wr × Rs
  | 0, s => ([], s)
  | n + 1, s => (s.write.1 :: (writes n s.write.2).1, (writes n s.write.2).2)
def stampeds : Nat → Rs → List St × Rs
  | 0, s => ([], s)
  | n + 1, s => (s.stamped.1 :: (stampeds n s.stamped.2).1, (stampeds n s.stamped.2).2)
def more (s : Rs) : Rs := if 0 < s.xs.length then s.note 13 else s
/-- A commit, and what is left. -/
def commit (s : Rs) : Int × List Wr × Rs := (s.num.1, writes (s.num.2.count 64).1.toNat (s.num.2.count 64).2)
/-- A chunk, and what is left. -/
def chunk (s : Rs) : Int × Bool × List St × Rs := (s.num.1, s.num.2.flag.1, stampeds (s.num.2.flag.2.count 16).1.toNat (s.num.2.flag.2.count 16).2)
/-- A master, and what is left. -/
def master (s : Rs) : Ms × Rs :=
  let s1 := s.num.2
  let s2 := s1.num.2
  let s3 := s2.num.2
  let s4 := s3.num.2
  let s5 := s4.num.2
  let s6 := s5.num.2
  let s7 := s6.num.2
  (⟨s.num.1, s1.num.1, s2.num.1, s3.num.1, s4.num.1, s5.num.1, s6.num.1, s7.num.1⟩, s7.num.2)
end Rs

namespace Rc
def takeCom (xs : List Int) : Int × List Wr × Int :=
  let r := (Rs.mk xs 0).commit
  let e := (r.2.2.more.note (comE r.1 r.2.1)).e
  if e = 0 then (r.1, r.2.1, 0) else (0, [], e)
def takeCh (xs : List Int) : Int × Bool × List St × Int :=
  let r := (Rs.mk xs 0).chunk
  let e := (r.2.2.2.more.note (chE r.1 r.2.2.1)).e
  if e = 0 then (r.1, r.2.1, r.2.2.1, 0) else (0, false, [], e)
def takeMs (xs : List Int) : Ms × Int :=
  let r := (Rs.mk xs 0).master
  let e := (r.2.more.note (msE r.1)).e
  if e = 0 then (r.1, 0) else (⟨0, 0, 0, 0, 0, 0, 0, 0⟩, e)
def takeWr (xs : List Int) : Wr × Int × Int :=
  let r := (Rs.mk xs 0).write
  if r.2.e = 0 then (r.1, (xs.length : Int) - r.2.xs.length, 0) else (⟨.empty, .empty, false⟩, 0, r.2.e)
end Rc

/-- A reader in memory; it, and what it reads, lie below lo. -/
def Rd (w : World) (R lo : Nat) (s : Rs) : Prop := ∃ p len cap, Bk w R 83 #[.slice p len cap, .int .i64 s.e] ∧ InB 9223372036854775807 w p len cap s.xs ∧ (0 < s.xs.length → ∀ ad, p = some ad → ad.block ≠ R ∧ ad.block < lo) ∧ R < lo ∧ lo ≤ w.heap.size

theorem InB.tn {B : Nat} {S : List Nat} {w w' : World} {p : Option Addr} {len cap : Nat} {xs : List Int} (h : InB B w p len cap xs) (ht : Tn S w w') (hS : 0 < xs.length → ∀ ad, p = some ad → ad.block ∉ S) : InB B w' p len cap xs := by
  refine ⟨h.lenq, fun hl => ?_, h.le, h.room, h.nil, h.byte⟩
  have hs := hS hl
  obtain ⟨b, o, rfl, hc⟩ := h.bys hl
  refine ⟨b, o, rfl, fun i hi => ?_⟩
  have hh := hc i hi
  rw [← hh]
  exact World.cell?_of_block (w := w) (ht.block b (World.block_lt_of_cell? w _ hh) (hs _ rfl))

theorem InB.belowLo {B : Nat} {lo : Nat} {w w' : World} {p : Option Addr} {len cap : Nat} {xs : List Int} (h : InB B w p len cap xs) (hb : Below lo w w') (hS : 0 < xs.length → ∀ ad, p = some ad → ad.block < lo) : InB B w' p len cap xs := by
  refine ⟨h.lenq, fun hl => ?_, h.le, h.room, h.nil, h.byte⟩
  have hs := hS hl
  obtain ⟨b, o, rfl, hc⟩ := h.bys hl
  refine ⟨b, o, rfl, fun i hi => ?_⟩
  rw [hb.cell (p := ⟨b, o + i, none⟩) (hs ⟨b, o, none⟩ rfl)]
  exact hc i hi

theorem Rd.lt {w : World} {R lo : Nat} {s : Rs} (h : Rd w R lo s) : R < lo := by
  obtain ⟨p, len, cap, _, _, _, h, _⟩ := h
  exact h

theorem Rd.le {w : World} {R lo : Nat} {s : Rs} (h : Rd w R lo s) : lo ≤ w.heap.size := by
  obtain ⟨p, len, cap, _, _, _, _, h⟩ := h
  exact h

theorem Rd.below {w w' : World} {R lo : Nat} {s : Rs} (h : Rd w R lo s) (hb : Below lo w w') : Rd w' R lo s := by
  obtain ⟨p, len, cap, hk, hi, hn, h1, h2⟩ := h
  exact ⟨p, len, cap, hk.below hb h1, hi.belowLo hb (fun hl ad had => (hn hl ad had).2), hn, h1, Nat.le_trans h2 hb.size⟩

theorem Cd.dec_zero (xs : List Int) (hb : ∀ x ∈ xs, 0 ≤ x ∧ x < 256) : 0 ≤ (Cd.dec xs).2.1 ∧ (Cd.dec xs).2.1 ≤ xs.length ∧ -9223372036854775808 ≤ (Cd.dec xs).1 ∧ (Cd.dec xs).1 ≤ 9223372036854775807 := by
  have := Cd.dec_facts xs hb
  omega

set_option maxHeartbeats 400000 in
theorem note_at {w : World} {R : Nat} {v : Value} {e0 : Int} (hk : Bk w R 83 #[v, .int .i64 e0]) (e e1 : Int) (he1 : Hid (e1 = if e0 = 0 then e else e0)) :
    Calls Try.prog 73 #[.pointer (some ⟨R, 0, none⟩), .int .i64 e] w fun x w' => x = .returned (.tuple #[]) ∧ Bk w' R 83 #[v, .int .i64 e1] ∧ Tn [R] w w' := by
  have c1 : w.cell? ⟨R, 1, none⟩ = some (.int .i64 e0) := hk.cell 1
  have f1 : w.frozen? ⟨R, 1, none⟩ = false := hk.frozen 1
  have HK : Hid (Bk w R 83 #[v, .int .i64 e0]) := hk
  clear hk
  by_cases he : e0 = 0
  · have hb : (e0 == 0) = true := by simpa using he
    have HE : Hid (e1 = e) := he1.out.trans (if_pos he)
    clear he1
    clear he
    go_enter Try.func73, Try.ntmps73
    go_wp2
    go_end0
    rw [HE.out]
    exact ⟨rfl, HK.out.set 1 _, (Tn.refl _ _).setCell (.inl (by simp)) _⟩
  · have hb : (e0 == 0) = false := by simpa using he
    have HE : Hid (e1 = e0) := he1.out.trans (if_neg he)
    clear he1
    clear he
    go_enter Try.func73, Try.ntmps73
    go_wp2
    go_end0
    rw [HE.out]
    exact ⟨rfl, HK.out, Tn.refl _ _⟩

theorem note_any {w : World} {R lo : Nat} {s : Rs} (h : Rd w R lo s) (e : Int) :
    Calls Try.prog 73 #[.pointer (some ⟨R, 0, none⟩), .int .i64 e] w fun x w' => x = .returned (.tuple #[]) ∧ Rd w' R lo (s.note e) ∧ Tn [R] w w' := by
  obtain ⟨p, len, cap, hk, hi, hn, hlt, hlo⟩ := h
  refine (note_at hk e _ rfl).mono ?_
  rintro x w' ⟨rfl, hk2, ht⟩
  have hx : (s.note e).xs = s.xs := by unfold Rs.note; split <;> rfl
  refine ⟨rfl, ⟨p, len, cap, ?_, ?_, by rw [hx]; exact hn, hlt, Nat.le_trans hlo ht.size⟩, ht⟩
  · unfold Rs.note
    split
    · rw [if_pos (by assumption)] at hk2
      exact hk2
    · rw [if_neg (by assumption)] at hk2
      exact hk2
  · rw [hx]
    exact hi.tn ht (fun hl ad had => by simp; exact (hn hl ad had).1)

theorem InB.drop {B : Nat} {w : World} {ad : Addr} {len cap : Nat} {xs : List Int} (h : InB B w (some ad) len cap xs) {k : Nat} (hk : k ≤ len) : InB B w (some (ad.add k)) (len - k) (cap - k) (xs.drop k) := by
  have h1 := h.lenq
  have h2 := h.le
  have h3 := h.room
  refine ⟨by simp; omega, fun hl => ?_, by omega, by omega, (fun e => by cases e), fun y hy => h.byte y (List.mem_of_mem_drop hy)⟩
  simp at hl
  obtain ⟨b, o, hp, hc⟩ := h.bys (by omega)
  cases hp
  refine ⟨b, o + k, by rw [Addr.add_lit], fun i hi => ?_⟩
  simp at hi
  have := hc (k + i) (by omega)
  rw [← Nat.add_assoc] at this
  rw [this]
  simp [List.getD]

/-- What a field that was read leaves. -/
theorem rd_step {w w2 : World} {R lo : Nat} {ad : Addr} {len cap : Nat} {s : Rs} {e : Int} {k : Nat} (hi : InB 9223372036854775807 w (some ad) len cap s.xs) (hn : 0 < s.xs.length → ad.block ≠ R ∧ ad.block < lo) (hlt : R < lo) (hlo : lo ≤ w.heap.size) (hk : k ≤ len) (ht : Tn [R] w w2) (hb : Bk w2 R 83 #[.slice (some ad) len cap, .int .i64 e]) :
    Rd (w2.setCell ⟨R, 0, none⟩ (.slice (some (ad.add k)) (len - k) (cap - k))) R lo ⟨s.xs.drop k, e⟩ ∧ Tn [R] w (w2.setCell ⟨R, 0, none⟩ (.slice (some (ad.add k)) (len - k) (cap - k))) := by
  have t2 : Tn [R] w2 (w2.setCell ⟨R, 0, none⟩ (.slice (some (ad.add k)) (len - k) (cap - k))) := (Tn.refl _ _).setCell (.inl (by simp)) _
  have t3 := ht.trans t2 (fun x hx => .inl hx)
  refine ⟨⟨some (ad.add k), len - k, cap - k, hb.set 0 _, (hi.tn t3 ?_).drop hk, ?_, hlt, Nat.le_trans hlo t3.size⟩, t3⟩
  · intro hl a ha
    cases ha
    simpa using (hn hl).1
  · intro hl a ha
    cases ha
    have hl2 : 0 < s.xs.length := by simp at hl; omega
    have hq := hn hl2
    obtain ⟨b, o, sp⟩ := ad
    unfold Addr.add
    split
    · exact hq
    · exact hq

/-- What the last field leaves. -/
theorem rd_step0 {w w2 : World} {R lo : Nat} {ad : Addr} {len cap : Nat} {s : Rs} {e : Int} {k : Nat} (hi : InB 9223372036854775807 w (some ad) len cap s.xs) (hlt : R < lo) (hlo : lo ≤ w.heap.size) (hk : k ≤ len) (hck : cap = k) (ht : Tn [R] w w2) (hb : Bk w2 R 83 #[.slice (some ad) len cap, .int .i64 e]) :
    Rd (w2.setCell ⟨R, 0, none⟩ (.slice (some ad) (len - k) 0)) R lo ⟨s.xs.drop k, e⟩ ∧ Tn [R] w (w2.setCell ⟨R, 0, none⟩ (.slice (some ad) (len - k) 0)) := by
  have t2 : Tn [R] w2 (w2.setCell ⟨R, 0, none⟩ (.slice (some ad) (len - k) 0)) := (Tn.refl _ _).setCell (.inl (by simp)) _
  have t3 := ht.trans t2 (fun x hx => .inl hx)
  have h1 := hi.lenq
  have h2 := hi.le
  have e0 : len - k = 0 := by omega
  have e1 : s.xs.drop k = [] := List.drop_eq_nil_of_le (by omega)
  refine ⟨⟨some ad, len - k, 0, hb.set 0 _, ?_, ?_, hlt, Nat.le_trans hlo t3.size⟩, t3⟩
  · simp only [e0, e1]
    exact ⟨rfl, Bys.nil _ _, Nat.le_refl _, Nat.zero_le _, (fun e => by cases e), by simp⟩
  · simp [e1]

set_option maxHeartbeats 1000000 in
theorem field_num {w : World} {R lo : Nat} {s : Rs} (h : Rd w R lo s) :
    Calls Try.prog 83 #[.pointer (some ⟨R, 0, none⟩), .func (.func 84) #[] #[]] w fun x w' => x = .returned (.int .i64 s.num.1) ∧ Rd w' R lo s.num.2 ∧ Tn [R] w w' := by
  have HR : Hid (Rd w R lo s) := h
  obtain ⟨p, len, cap, hk, hi, hn, hlt, hlo⟩ := h
  have c0 : w.cell? ⟨R, 0, none⟩ = some (.slice p len cap) := hk.cell 0
  have c1 : w.cell? ⟨R, 1, none⟩ = some (.int .i64 s.e) := hk.cell 1
  have HK : Hid (Bk w R 83 #[.slice p len cap, .int .i64 s.e]) := hk
  have HI : Hid (InB 9223372036854775807 w p len cap s.xs) := hi
  have HN : Hid (0 < s.xs.length → ∀ ad, p = some ad → ad.block ≠ R ∧ ad.block < lo) := hn
  have hle := hi.le
  have hroom := hi.room
  have hz := Cd.dec_zero s.xs hi.byte
  rw [hi.lenq] at hz
  clear hk hi hn
  by_cases he : s.e = 0
  · have hb : (s.e != 0) = false := by simpa using he
    have HN1 : Hid (s.num = ((Cd.dec s.xs).1, ⟨s.xs.drop (Cd.dec s.xs).2.1.toNat, (Cd.dec s.xs).2.2⟩)) := by unfold Hid Rs.num; rw [if_pos he]
    have HNT : Hid (∀ e : Int, (if s.e = 0 then e else s.e) = e) := fun e => if_pos he
    obtain ⟨D, hD⟩ : ∃ D, Cd.dec s.xs = D := ⟨_, rfl⟩
    rw [hD] at HN1 hz
    have HDD : Hid (Cd.dec s.xs = D) := hD
    clear he hD
    obtain ⟨d1, d2, d3⟩ := D
    simp only at HN1 hz
    obtain ⟨k, rfl⟩ := Int.eq_ofNat_of_zero_le hz.1
    simp only [Int.toNat_natCast] at HN1
    go_enter Try.func83, Try.ntmps83
    go_wp2_with fail
    refine (int_any p cap len s.xs _ HI.out.lenq HI.out.bys hle (by omega) HI.out.byte).mono ?_
    rintro e w1 ⟨rfl, hw1⟩
    subst hw1
    rw [HDD.out]
    unfold three
    go_wp2_with fail
    refine (note_at HK.out d3 d3 (HNT.out d3).symm).mono ?_
    rintro e w2 ⟨rfl, hk2, ht2⟩
    have HK2 : Hid (Bk w2 R 83 #[.slice p len cap, .int .i64 d3]) := hk2
    have e0 : w2.cell? ⟨R, 0, none⟩ = some (.slice p len cap) := hk2.cell 0
    have f0 : w2.frozen? ⟨R, 0, none⟩ = false := hk2.frozen 0
    have HT2 : Hid (Tn [R] w1 w2) := ht2
    clear hk2 ht2 c0 c1
    cases p with
    | none =>
      obtain ⟨h1, h2⟩ := HI.out.nil rfl
      subst h1 h2
      obtain rfl : k = 0 := by omega
      go_wp2
      go_ret
      rw [HN1.out]
      have t3 : Tn [R] w2 (w2.setCell ⟨R, 0, none⟩ (.slice none 0 0)) := (Tn.refl _ _).setCell (.inl (by simp)) _
      have t4 := HT2.out.trans t3 (fun x hx => .inl hx)
      exact ⟨rfl, ⟨none, 0, 0, HK2.out.set 0 _, HI.out.tn t4 (fun _ ad had => by cases had), (fun _ ad had => by cases had), hlt, Nat.le_trans hlo t4.size⟩, t4⟩
    | some ad =>
      have hkl : (k : Int) ≤ (len : Int) := by omega
      have hkc : (k : Int) ≤ (cap : Int) := by omega
      have hk' : k ≤ len := by omega
      by_cases hck : cap = k
      · go_wp2
        go_ret
        rw [HN1.out]
        have hq := rd_step0 HI.out hlt hlo hk' hck HT2.out HK2.out
        exact ⟨rfl, hq.1, hq.2⟩
      · go_wp2
        go_ret
        rw [HN1.out]
        have hq := rd_step HI.out (fun hl => HN.out hl ad rfl) hlt hlo hk' HT2.out HK2.out
        exact ⟨rfl, hq.1, hq.2⟩
  · have hb : (s.e != 0) = true := by simpa using he
    have HN1 : Hid (s.num = (0, s)) := by unfold Hid Rs.num; rw [if_neg he]
    clear he
    go_enter Try.func83, Try.ntmps83
    go_wp2
    go_ret
    rw [HN1.out]
    exact ⟨rfl, HR.out, Tn.refl _ _⟩

set_option maxHeartbeats 400000 in
theorem num_rd {w : World} {R lo : Nat} {s : Rs} (h : Rd w R lo s) :
    Calls Try.prog 71 #[.pointer (some ⟨R, 0, none⟩)] w fun x w' => x = .returned (.int .i64 s.num.1) ∧ Rd w' R lo s.num.2 ∧ Tn [R] w w' := by
  have HR : Hid (Rd w R lo s) := h
  clear h
  go_enter Try.func71, Try.ntmps71
  go_wp2_with fail
  refine (field_num HR.out).mono ?_
  rintro e w1 ⟨rfl, h1, h2⟩
  have H1 : Hid (Rd w1 R lo s.num.2) := h1
  have H2 : Hid (Tn [R] w w1) := h2
  clear h1 h2
  go_wp2
  go_ret
  exact ⟨rfl, H1.out, H2.out⟩

theorem Cd.decT_zero (xs : List Int) (hb : ∀ x ∈ xs, 0 ≤ x ∧ x < 256) : 0 ≤ (Cd.decT xs).2.1 ∧ (Cd.decT xs).2.1 ≤ xs.length := by
  rcases Cd.decT_facts xs hb with ⟨s, n, _, h, _, hl, _⟩ | ⟨_, h, _⟩
  · rw [h]
    simp only
    omega
  · omega

theorem Cd.decF_zero (xs : List Int) (hb : ∀ x ∈ xs, 0 ≤ x ∧ x < 256) : 0 ≤ (Cd.decF xs).2.1 ∧ (Cd.decF xs).2.1 ≤ xs.length := by
  have := Cd.dec_zero xs hb
  unfold Cd.decF
  repeat' split
  all_goals (simp only; omega)

set_option maxHeartbeats 1000000 in
theorem field_text {w : World} {R lo : Nat} {s : Rs} (h : Rd w R lo s) :
    Calls Try.prog 90 #[.pointer (some ⟨R, 0, none⟩), .func (.func 91) #[] #[]] w fun x w' => x = .returned (.string s.text.1) ∧ Rd w' R lo s.text.2 ∧ Tn [R] w w' := by
  have HR : Hid (Rd w R lo s) := h
  obtain ⟨p, len, cap, hk, hi, hn, hlt, hlo⟩ := h
  have c0 : w.cell? ⟨R, 0, none⟩ = some (.slice p len cap) := hk.cell 0
  have c1 : w.cell? ⟨R, 1, none⟩ = some (.int .i64 s.e) := hk.cell 1
  have HK : Hid (Bk w R 83 #[.slice p len cap, .int .i64 s.e]) := hk
  have HI : Hid (InB 9223372036854775807 w p len cap s.xs) := hi
  have HN : Hid (0 < s.xs.length → ∀ ad, p = some ad → ad.block ≠ R ∧ ad.block < lo) := hn
  have hle := hi.le
  have hroom := hi.room
  have hz := Cd.decT_zero s.xs hi.byte
  rw [hi.lenq] at hz
  clear hk hi hn
  by_cases he : s.e = 0
  · have hb : (s.e != 0) = false := by simpa using he
    have HN1 : Hid (s.text = (strOfNums (Cd.decT s.xs).1, ⟨s.xs.drop (Cd.decT s.xs).2.1.toNat, (Cd.decT s.xs).2.2⟩)) := by unfold Hid Rs.text; rw [if_pos he]
    have HNT : Hid (∀ e : Int, (if s.e = 0 then e else s.e) = e) := fun e => if_pos he
    obtain ⟨D, hD⟩ : ∃ D, Cd.decT s.xs = D := ⟨_, rfl⟩
    rw [hD] at HN1 hz
    have HDD : Hid (Cd.decT s.xs = D) := hD
    clear he hD
    obtain ⟨d1, d2, d3⟩ := D
    simp only at HN1 hz
    obtain ⟨k, rfl⟩ := Int.eq_ofNat_of_zero_le hz.1
    simp only [Int.toNat_natCast] at HN1
    go_enter Try.func90, Try.ntmps90
    go_wp2_with fail
    refine (text_any p cap len s.xs _ HI.out.lenq HI.out.bys hle (by omega) HI.out.byte).mono ?_
    rintro e w1 ⟨rfl, hw1⟩
    subst hw1
    rw [HDD.out]
    skip
    go_wp2_with fail
    refine (note_at HK.out d3 d3 (HNT.out d3).symm).mono ?_
    rintro e w2 ⟨rfl, hk2, ht2⟩
    have HK2 : Hid (Bk w2 R 83 #[.slice p len cap, .int .i64 d3]) := hk2
    have e0 : w2.cell? ⟨R, 0, none⟩ = some (.slice p len cap) := hk2.cell 0
    have f0 : w2.frozen? ⟨R, 0, none⟩ = false := hk2.frozen 0
    have HT2 : Hid (Tn [R] w1 w2) := ht2
    clear hk2 ht2 c0 c1
    cases p with
    | none =>
      obtain ⟨h1, h2⟩ := HI.out.nil rfl
      subst h1 h2
      obtain rfl : k = 0 := by omega
      go_wp2
      go_ret
      rw [HN1.out]
      have t3 : Tn [R] w2 (w2.setCell ⟨R, 0, none⟩ (.slice none 0 0)) := (Tn.refl _ _).setCell (.inl (by simp)) _
      have t4 := HT2.out.trans t3 (fun x hx => .inl hx)
      exact ⟨rfl, ⟨none, 0, 0, HK2.out.set 0 _, HI.out.tn t4 (fun _ ad had => by cases had), (fun _ ad had => by cases had), hlt, Nat.le_trans hlo t4.size⟩, t4⟩
    | some ad =>
      have hkl : (k : Int) ≤ (len : Int) := by omega
      have hkc : (k : Int) ≤ (cap : Int) := by omega
      have hk' : k ≤ len := by omega
      by_cases hck : cap = k
      · go_wp2
        go_ret
        rw [HN1.out]
        have hq := rd_step0 HI.out hlt hlo hk' hck HT2.out HK2.out
        exact ⟨rfl, hq.1, hq.2⟩
      · go_wp2
        go_ret
        rw [HN1.out]
        have hq := rd_step HI.out (fun hl => HN.out hl ad rfl) hlt hlo hk' HT2.out HK2.out
        exact ⟨rfl, hq.1, hq.2⟩
  · have hb : (s.e != 0) = true := by simpa using he
    have HN1 : Hid (s.text = (.empty, s)) := by unfold Hid Rs.text; rw [if_neg he]
    clear he
    go_enter Try.func90, Try.ntmps90
    go_wp2
    go_ret
    rw [HN1.out]
    exact ⟨rfl, HR.out, Tn.refl _ _⟩

set_option maxHeartbeats 400000 in
theorem text_rd {w : World} {R lo : Nat} {s : Rs} (h : Rd w R lo s) :
    Calls Try.prog 81 #[.pointer (some ⟨R, 0, none⟩)] w fun x w' => x = .returned (.string s.text.1) ∧ Rd w' R lo s.text.2 ∧ Tn [R] w w' := by
  have HR : Hid (Rd w R lo s) := h
  clear h
  go_enter Try.func81, Try.ntmps81
  go_wp2_with fail
  refine (field_text HR.out).mono ?_
  rintro e w1 ⟨rfl, h1, h2⟩
  have H1 : Hid (Rd w1 R lo s.text.2) := h1
  have H2 : Hid (Tn [R] w w1) := h2
  clear h1 h2
  go_wp2
  go_ret
  exact ⟨rfl, H1.out, H2.out⟩

set_option maxHeartbeats 1000000 in
theorem field_flag {w : World} {R lo : Nat} {s : Rs} (h : Rd w R lo s) :
    Calls Try.prog 86 #[.pointer (some ⟨R, 0, none⟩), .func (.func 87) #[] #[]] w fun x w' => x = .returned (.bool s.flag.1) ∧ Rd w' R lo s.flag.2 ∧ Tn [R] w w' := by
  have HR : Hid (Rd w R lo s) := h
  obtain ⟨p, len, cap, hk, hi, hn, hlt, hlo⟩ := h
  have c0 : w.cell? ⟨R, 0, none⟩ = some (.slice p len cap) := hk.cell 0
  have c1 : w.cell? ⟨R, 1, none⟩ = some (.int .i64 s.e) := hk.cell 1
  have HK : Hid (Bk w R 83 #[.slice p len cap, .int .i64 s.e]) := hk
  have HI : Hid (InB 9223372036854775807 w p len cap s.xs) := hi
  have HN : Hid (0 < s.xs.length → ∀ ad, p = some ad → ad.block ≠ R ∧ ad.block < lo) := hn
  have hle := hi.le
  have hroom := hi.room
  have hz := Cd.decF_zero s.xs hi.byte
  rw [hi.lenq] at hz
  clear hk hi hn
  by_cases he : s.e = 0
  · have hb : (s.e != 0) = false := by simpa using he
    have HN1 : Hid (s.flag = ((Cd.decF s.xs).1, ⟨s.xs.drop (Cd.decF s.xs).2.1.toNat, (Cd.decF s.xs).2.2⟩)) := by unfold Hid Rs.flag; rw [if_pos he]
    have HNT : Hid (∀ e : Int, (if s.e = 0 then e else s.e) = e) := fun e => if_pos he
    obtain ⟨D, hD⟩ : ∃ D, Cd.decF s.xs = D := ⟨_, rfl⟩
    rw [hD] at HN1 hz
    have HDD : Hid (Cd.decF s.xs = D) := hD
    clear he hD
    obtain ⟨d1, d2, d3⟩ := D
    simp only at HN1 hz
    obtain ⟨k, rfl⟩ := Int.eq_ofNat_of_zero_le hz.1
    simp only [Int.toNat_natCast] at HN1
    go_enter Try.func86, Try.ntmps86
    go_wp2_with fail
    refine (flag_any p cap len s.xs _ HI.out.lenq HI.out.bys hle (by omega) HI.out.byte).mono ?_
    rintro e w1 ⟨rfl, hw1⟩
    subst hw1
    rw [HDD.out]
    skip
    go_wp2_with fail
    refine (note_at HK.out d3 d3 (HNT.out d3).symm).mono ?_
    rintro e w2 ⟨rfl, hk2, ht2⟩
    have HK2 : Hid (Bk w2 R 83 #[.slice p len cap, .int .i64 d3]) := hk2
    have e0 : w2.cell? ⟨R, 0, none⟩ = some (.slice p len cap) := hk2.cell 0
    have f0 : w2.frozen? ⟨R, 0, none⟩ = false := hk2.frozen 0
    have HT2 : Hid (Tn [R] w1 w2) := ht2
    clear hk2 ht2 c0 c1
    cases p with
    | none =>
      obtain ⟨h1, h2⟩ := HI.out.nil rfl
      subst h1 h2
      obtain rfl : k = 0 := by omega
      go_wp2
      go_ret
      rw [HN1.out]
      have t3 : Tn [R] w2 (w2.setCell ⟨R, 0, none⟩ (.slice none 0 0)) := (Tn.refl _ _).setCell (.inl (by simp)) _
      have t4 := HT2.out.trans t3 (fun x hx => .inl hx)
      exact ⟨rfl, ⟨none, 0, 0, HK2.out.set 0 _, HI.out.tn t4 (fun _ ad had => by cases had), (fun _ ad had => by cases had), hlt, Nat.le_trans hlo t4.size⟩, t4⟩
    | some ad =>
      have hkl : (k : Int) ≤ (len : Int) := by omega
      have hkc : (k : Int) ≤ (cap : Int) := by omega
      have hk' : k ≤ len := by omega
      by_cases hck : cap = k
      · go_wp2
        go_ret
        rw [HN1.out]
        have hq := rd_step0 HI.out hlt hlo hk' hck HT2.out HK2.out
        exact ⟨rfl, hq.1, hq.2⟩
      · go_wp2
        go_ret
        rw [HN1.out]
        have hq := rd_step HI.out (fun hl => HN.out hl ad rfl) hlt hlo hk' HT2.out HK2.out
        exact ⟨rfl, hq.1, hq.2⟩
  · have hb : (s.e != 0) = true := by simpa using he
    have HN1 : Hid (s.flag = (false, s)) := by unfold Hid Rs.flag; rw [if_neg he]
    clear he
    go_enter Try.func86, Try.ntmps86
    go_wp2
    go_ret
    rw [HN1.out]
    exact ⟨rfl, HR.out, Tn.refl _ _⟩

set_option maxHeartbeats 400000 in
theorem flag_rd {w : World} {R lo : Nat} {s : Rs} (h : Rd w R lo s) :
    Calls Try.prog 76 #[.pointer (some ⟨R, 0, none⟩)] w fun x w' => x = .returned (.bool s.flag.1) ∧ Rd w' R lo s.flag.2 ∧ Tn [R] w w' := by
  have HR : Hid (Rd w R lo s) := h
  clear h
  go_enter Try.func76, Try.ntmps76
  go_wp2_with fail
  refine (field_flag HR.out).mono ?_
  rintro e w1 ⟨rfl, h1, h2⟩
  have H1 : Hid (Rd w1 R lo s.flag.2) := h1
  have H2 : Hid (Tn [R] w w1) := h2
  clear h1 h2
  go_wp2
  go_ret
  exact ⟨rfl, H1.out, H2.out⟩

end Go.Proofs.Ytlfgclmgpbaenaa
