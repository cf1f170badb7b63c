/- What each record puts among the fields. -/
import Derived.Test.YtlfgclmgpbaenaaRcFld
import Derived.Test.YtlfgclmgpbaenaaRcM
namespace Go.Proofs.Ytlfgclmgpbaenaa
open Go.RowKit
set_option linter.unusedVariables false
set_option maxRecDepth 100000

namespace Rc
def encT (s : ByteArray) : List Int := Cd.enc s.size ++ strB s
def encF (b : Bool) : List Int := [if b then 109 else 108]
def wrB (x : Wr) : List Int := encT x.key ++ encF x.del ++ encT x.val
def wsB (l : List Wr) : List Int := (l.map wrB).flatten
def comB (ts : Int) (l : List Wr) : List Int := Cd.enc ts ++ Cd.enc l.length ++ wsB l
def stB (x : St) : List Int := encT x.key ++ encT x.val ++ Cd.enc x.ts
def stsB (l : List St) : List Int := (l.map stB).flatten
def chB (n : Int) (d : Bool) (l : List St) : List Int := Cd.enc n ++ encF d ++ Cd.enc l.length ++ stsB l
def msB (m : Ms) : List Int := Cd.enc m.seq ++ Cd.enc m.area ++ Cd.enc m.chunks ++ Cd.enc m.ts ++ Cd.enc m.sector ++ Cd.enc m.offset ++ Cd.enc m.number ++ Cd.enc m.run

theorem encT_length (s : ByteArray) : (encT s).length = Cd.width s.size + s.size := by simp [encT, Cd.enc_length, strB_length]
theorem encT_le (s : ByteArray) : (encT s).length ≤ 9 + s.size := by
  have := Cd.width_pos s.size
  rw [encT_length]
  omega
theorem enc_le (n : Int) : (Cd.enc n).length ≤ 9 := by
  have := Cd.width_pos n
  rw [Cd.enc_length]
  omega
theorem wrB_le {x : Wr} (h1 : x.key.size ≤ 64) (h2 : x.val.size ≤ 256) : (wrB x).length ≤ 339 := by
  have := encT_le x.key
  have := encT_le x.val
  simp only [wrB, List.length_append, encF, List.length_singleton]
  omega
theorem stB_le {x : St} (h1 : x.key.size ≤ 64) (h2 : x.val.size ≤ 256) : (stB x).length ≤ 347 := by
  have := encT_le x.key
  have := encT_le x.val
  have := enc_le x.ts
  simp only [stB, List.length_append]
  omega
theorem wsB_snoc {l : List Wr} {k : Nat} {g : Wr} (h : l[k]? = some g) : wsB (l.take (k + 1)) = wsB (l.take k) ++ wrB g := by
  obtain ⟨hk, rfl⟩ := List.getElem?_eq_some_iff.1 h
  rw [wsB, wsB, List.take_succ_eq_append_getElem hk]
  simp only [List.map_append, List.map_cons, List.map_nil, List.flatten_append, List.flatten_cons, List.flatten_nil, List.append_nil]
theorem stsB_snoc {l : List St} {k : Nat} {g : St} (h : l[k]? = some g) : stsB (l.take (k + 1)) = stsB (l.take k) ++ stB g := by
  obtain ⟨hk, rfl⟩ := List.getElem?_eq_some_iff.1 h
  rw [stsB, stsB, List.take_succ_eq_append_getElem hk]
  simp only [List.map_append, List.map_cons, List.map_nil, List.flatten_append, List.flatten_cons, List.flatten_nil, List.append_nil]
end Rc

/-- Since w0 the fields have turned to this. -/
def Fg (w0 w : World) (F : Nat) (bs0 : List Nat) (xs : List Int) : Prop := ∃ bs, Fl w F bs xs.length xs ∧ Tn bs0 w0 w ∧ ∀ b ∈ bs, b ∈ bs0 ∨ w0.heap.size ≤ b

/-- The same, beside one block that stays. -/
def FgK (w0 w : World) (F : Nat) (bs0 : List Nat) (xs : List Int) (B : Nat) (T : TypeId) (cs : Array Value) : Prop :=
  ∃ bs, Fl w F bs xs.length xs ∧ B ∉ bs ∧ Bk w B T cs ∧ Tn bs0 w0 w ∧ ∀ b ∈ bs, b ∈ bs0 ∨ w0.heap.size ≤ b

theorem Fg.begin {w : World} {F : Nat} {bs : List Nat} {xs : List Int} (h : Fl w F bs xs.length xs) : Fg w w F bs xs := ⟨bs, h, Tn.refl _ _, fun b hb => .inl hb⟩

theorem Fg.alloc {w0 w : World} {F : Nat} {bs0 : List Nat} {xs : List Int} (h : Fg w0 w F bs0 xs) (o : Obj) : Fg w0 (w.alloc o) F bs0 xs := by
  obtain ⟨bs, h1, h2, h3⟩ := h
  exact ⟨bs, h1.below ((Below.refl _ _).alloc (Nat.le_refl _) _), h2.alloc _, h3⟩

theorem Fg.box {w0 w : World} {F : Nat} {bs0 : List Nat} {xs : List Int} (h : Fg w0 w F bs0 xs) (T : TypeId) (cs : Array Value) : FgK w0 (w.alloc (.cells cs T)) F bs0 xs w.heap.size T cs := by
  obtain ⟨bs, h1, h2, h3⟩ := h
  refine ⟨bs, h1.below ((Below.refl _ _).alloc (Nat.le_refl _) _), fun hm => ?_, Bk.new _ _ _, h2.alloc _, h3⟩
  have := h1.lt _ hm
  omega

theorem FgK.out {w0 w : World} {F : Nat} {bs0 : List Nat} {xs : List Int} {B : Nat} {T : TypeId} {cs : Array Value} (h : FgK w0 w F bs0 xs B T cs) : Fg w0 w F bs0 xs := by
  obtain ⟨bs, h1, _, _, h2, h3⟩ := h
  exact ⟨bs, h1, h2, h3⟩

theorem FgK.bk {w0 w : World} {F : Nat} {bs0 : List Nat} {xs : List Int} {B : Nat} {T : TypeId} {cs : Array Value} (h : FgK w0 w F bs0 xs B T cs) : Bk w B T cs := by
  obtain ⟨bs, _, _, h, _⟩ := h
  exact h

theorem FgK.step {w0 w w' : World} {F : Nat} {bs0 bs : List Nat} {xs ys : List Int} {n : Nat} {B : Nat} {T : TypeId} {cs : Array Value} (hB : B ∉ bs) (hk : Bk w B T cs) (ht : Tn bs0 w0 w) (hm : ∀ b ∈ bs, b ∈ bs0 ∨ w0.heap.size ≤ b)
    (h : FlT w w' F bs n ys) (hn : n = ys.length) : FgK w0 w' F bs0 ys B T cs := by
  subst hn
  obtain ⟨bs', f, t, m⟩ := h
  refine ⟨bs', f, fun hx => ?_, hk.tn t hB, ht.trans t hm, fun b hb => ?_⟩
  · rcases m B hx with h | h
    · exact hB h
    · have := hk.lt
      omega
  · have := ht.size
    rcases m b hb with h | h
    · exact hm b h
    · right; omega

theorem fnumK {w0 w : World} {F : Nat} {bs0 : List Nat} {xs : List Int} {B : Nat} {T : TypeId} {cs : Array Value} (h : FgK w0 w F bs0 xs B T cs) (x : Int) (h0 : -9223372036854775808 ≤ x) (h1 : x ≤ 9223372036854775807) (hn : xs.length ≤ 1099511627776) :
    Calls Try.prog 113 #[.pointer (some ⟨F, 0, none⟩), .int .i64 x] w fun e w' => e = .returned (.tuple #[]) ∧ FgK w0 w' F bs0 (xs ++ Cd.enc x) B T cs := by
  obtain ⟨bs, hf, hB, hk, ht, hm⟩ := h
  refine (fnum_any hf x h0 h1 hn).mono ?_
  rintro e w' ⟨rfl, h⟩
  exact ⟨rfl, FgK.step (xs := xs) hB hk ht hm h (by simp [Cd.enc_length])⟩

theorem fflagK {w0 w : World} {F : Nat} {bs0 : List Nat} {xs : List Int} {B : Nat} {T : TypeId} {cs : Array Value} (h : FgK w0 w F bs0 xs B T cs) (x : Bool) (hn : xs.length ≤ 1099511627776) :
    Calls Try.prog 117 #[.pointer (some ⟨F, 0, none⟩), .bool x] w fun e w' => e = .returned (.tuple #[]) ∧ FgK w0 w' F bs0 (xs ++ Rc.encF x) B T cs := by
  obtain ⟨bs, hf, hB, hk, ht, hm⟩ := h
  refine (fflag_any hf x hn).mono ?_
  rintro e w' ⟨rfl, h⟩
  exact ⟨rfl, FgK.step (xs := xs) hB hk ht hm h (by simp [Rc.encF])⟩

theorem ftextK {w0 w : World} {F : Nat} {bs0 : List Nat} {xs : List Int} {B : Nat} {T : TypeId} {cs : Array Value} (h : FgK w0 w F bs0 xs B T cs) (x : ByteArray) (hx : x.size ≤ 1099511627776) (hn : xs.length ≤ 1099511627776) :
    Calls Try.prog 116 #[.pointer (some ⟨F, 0, none⟩), .string x] w fun e w' => e = .returned (.tuple #[]) ∧ FgK w0 w' F bs0 (xs ++ Rc.encT x) B T cs := by
  obtain ⟨bs, hf, hB, hk, ht, hm⟩ := h
  refine (ftext_any hf x hx hn).mono ?_
  rintro e w' ⟨rfl, h⟩
  exact ⟨rfl, FgK.step (xs := xs) hB hk ht hm h (by simp [Rc.encT_length])⟩

set_option maxHeartbeats 1000000 in
theorem wfill_any {w0 w : World} {F : Nat} {bs0 : List Nat} {xs : List Int} (h : Fg w0 w F bs0 xs) (x : Wr) (h1 : x.key.size ≤ 64) (h2 : x.val.size ≤ 256) (hn : xs.length ≤ 549755813888) :
    Calls Try.prog 114 #[.agg x.cells.toArray, .pointer (some ⟨F, 0, none⟩)] w fun e w' => e = .returned (.tuple #[]) ∧ Fg w0 w' F bs0 (xs ++ Rc.wrB x) := by
  have HB : Hid (FgK w0 (w.alloc (.cells x.cells.toArray 102)) F bs0 xs w.heap.size 102 x.cells.toArray) := h.box _ _
  obtain ⟨k, v, d⟩ := x
  unfold Wr.cells at *
  simp only at h1 h2 HB
  have hk := Rc.encT_le k
  clear h
  go_enter Try.func114, Try.ntmps114
  go_wp2_with fail
  refine (ftextK HB.out k (by omega) (by omega)).mono ?_
  rintro e w1 ⟨rfl, h1⟩
  have H1 : Hid (FgK w0 w1 F bs0 (xs ++ Rc.encT k) w.heap.size 102 #[.string k, .string v, .bool d]) := h1
  have c1 : w1.cell? ⟨w.heap.size, 2, none⟩ = some (.bool d) := h1.bk.cell 2
  clear h1 HB
  go_wp2_with fail
  refine (fflagK H1.out d (by simp; omega)).mono ?_
  rintro e w2 ⟨rfl, h2⟩
  have H2 : Hid (FgK w0 w2 F bs0 (xs ++ Rc.encT k ++ Rc.encF d) w.heap.size 102 #[.string k, .string v, .bool d]) := h2
  have c2 : w2.cell? ⟨w.heap.size, 1, none⟩ = some (.string v) := h2.bk.cell 1
  clear h2 H1 c1
  go_wp2_with fail
  refine (ftextK H2.out v (by omega) (by simp [Rc.encF]; omega)).mono ?_
  rintro e w3 ⟨rfl, h3⟩
  have H3 : Hid (Fg w0 w3 F bs0 (xs ++ Rc.encT k ++ Rc.encF d ++ Rc.encT v)) := FgK.out h3
  clear h3 H2 c2
  go_wp2
  go_end0
  refine ⟨rfl, ?_⟩
  have := H3.out
  simp only [List.append_assoc] at this
  simpa only [Rc.wrB, List.append_assoc] using this

set_option maxHeartbeats 1000000 in
theorem cfill_any {w : World} {F lo : Nat} {bs : List Nat} (h : Fl w F bs 0 []) (hlo : ∀ b ∈ bs, lo ≤ b) (hls : lo ≤ w.heap.size) (ts : Int) (h0 : -9223372036854775808 ≤ ts) (h1 : ts ≤ 9223372036854775807) (p : Option Addr) (len cap : Nat) (l : List Wr)
    (hin : ∀ w', Below lo w w' → InW w' p len cap l) (hl64 : len ≤ 64) (hsz : ∀ g ∈ l, g.key.size ≤ 64 ∧ g.val.size ≤ 256) :
    Calls Try.prog 112 #[.agg #[.int .i64 ts, .slice p len cap], .pointer (some ⟨F, 0, none⟩)] w fun e w' => e = .returned (.tuple #[]) ∧ Fg w w' F bs (Rc.comB ts l) := by
  have HB : Hid (FgK w (w.alloc (.cells #[.int .i64 ts, .slice p len cap] 74)) F bs [] w.heap.size 74 #[.int .i64 ts, .slice p len cap]) := (Fg.begin h).box _ _
  have HI : Hid (∀ w', Below lo w w' → InW w' p len cap l) := hin
  have HL : Hid (l.length = len) := (hin w (Below.refl _ _)).lenq
  have HZ : Hid (∀ g ∈ l, g.key.size ≤ 64 ∧ g.val.size ≤ 256) := hsz
  have HLO : Hid (∀ b ∈ bs, lo ≤ b) := hlo
  have he1 := Rc.enc_le ts
  have he2 := Rc.enc_le len
  clear h hin hsz hlo
  go_enter Try.func112, Try.ntmps112
  go_wp2_with fail
  refine (fnumK HB.out ts h0 h1 (by simp)).mono ?_
  rintro e w1 ⟨rfl, h1⟩
  have H1 : Hid (FgK w w1 F bs ([] ++ Cd.enc ts) w.heap.size 74 #[.int .i64 ts, .slice p len cap]) := h1
  have c1 : w1.cell? ⟨w.heap.size, 1, none⟩ = some (.slice p len cap) := h1.bk.cell 1
  clear h1 HB
  go_wp2_with fail
  refine (fnumK H1.out len (by omega) (by omega) (by simp; omega)).mono ?_
  rintro e w2 ⟨rfl, h2⟩
  have c2 : w2.cell? ⟨w.heap.size, 1, none⟩ = some (.slice p len cap) := h2.bk.cell 1
  have H2 : Hid (Fg w w2 F bs (Cd.enc ts ++ Cd.enc l.length ++ Rc.wsB (l.take 0))) := by
    rw [HL.out]
    simpa [Rc.wsB, Hid] using FgK.out h2
  clear h2 H1 c1
  go_wp2_with fail
  go_loopw [21] (fun i wr => ∃ k : Nat, k ≤ len ∧ i = .int .i64 k ∧ Hid (Fg w wr F bs (Cd.enc ts ++ Cd.enc l.length ++ Rc.wsB (l.take k))) ∧ Hid ((Rc.wsB (l.take k)).length ≤ 339 * k)) (fun i _ => len - (intOf i).toNat)
  case atStart => exact ⟨0, Nat.zero_le _, rfl, H2, by simp [Hid, Rc.wsB]⟩
  case round =>
    obtain ⟨k, hk, rfl, HF, HQ⟩ := hrel
    clear H2 c2
    by_cases hlt : k < len
    · have hli : (k : Int) < (len : Int) := by omega
      have hI : InW wr p len cap l := HI.out wr (by obtain ⟨bs1, _, t, _⟩ := HF.out; exact t.below hls HLO.out)
      obtain ⟨b, o, g, rfl, hg, hblt, c0, c1, c2⟩ := hI.at hlt
      have hgz := HZ.out g (List.mem_of_getElem? hg)
      have HS : Hid (Rc.wsB (l.take (k + 1)) = Rc.wsB (l.take k) ++ Rc.wrB g) := Rc.wsB_snoc hg
      have HA : Hid (Fg w (wr.alloc (.cells g.cells.toArray 33)) F bs (Cd.enc ts ++ Cd.enc l.length ++ Rc.wsB (l.take k))) := HF.out.alloc _
      have hln : (Cd.enc ts ++ Cd.enc (l.length : Int) ++ Rc.wsB (l.take k)).length ≤ 549755813888 := by
        have := HQ.out
        have := HL.out
        simp only [List.length_append]
        rw [HL.out]
        omega
      clear hI hg
      go_wp2_with fail
      refine (wfill_any HA.out g hgz.1 hgz.2 hln).mono ?_
      rintro e w4 ⟨rfl, h4⟩
      have H4 : Hid (Fg w w4 F bs (Cd.enc ts ++ Cd.enc l.length ++ Rc.wsB (l.take (k + 1)))) := by
        rw [HS.out, ← List.append_assoc]
        exact h4
      have HQ4 : Hid ((Rc.wsB (l.take (k + 1))).length ≤ 339 * (k + 1)) := by
        have := HQ.out
        have := Rc.wrB_le hgz.1 hgz.2
        unfold Hid
        rw [HS.out, List.length_append]
        omega
      clear h4 HA HF HQ c0 c1 c2 hln
      go_wp2
      go_roundw
      case rel => exact ⟨k + 1, by omega, by go_num, H4, HQ4⟩
      case measure => simp [intOf]; omega
    · have hli : ¬ ((k : Int) < (len : Int)) := by omega
      have HF2 : Hid (Fg w wr F bs (Rc.comB ts l)) := by
        have := HF.out
        rw [List.take_of_length_le (by have := HL.out; omega)] at this
        exact this
      go_wp2
      go_end0
      exact ⟨rfl, HF2.out⟩

end Go.Proofs.Ytlfgclmgpbaenaa
