/- What is written is read as it was. -/
import Derived.Test.YtlfgclmgpbaenaaRcRs
namespace Go.Proofs.Ytlfgclmgpbaenaa
open Go.RowKit
set_option linter.unusedVariables false
set_option maxRecDepth 100000

namespace Rs
theorem num_enc (n : Int) (r : List Int) (h0 : -9223372036854775808 ≤ n) (h1 : n ≤ 9223372036854775807) : (Rs.mk (Cd.enc n ++ r) 0).num = (n, ⟨r, 0⟩) := by
  unfold num
  rw [if_pos rfl]
  simp only [Cd.dec_enc n r h0 h1, Int.toNat_natCast]
  rw [← Cd.enc_length n, List.drop_left]

theorem decT_enc (s : ByteArray) (r : List Int) (hs : s.size ≤ 9223372036854775807) : Cd.decT (Rc.encT s ++ r) = (strB s, ((Cd.width s.size + s.size : Nat) : Int), 0) := by
  have hd := Cd.dec_enc (s.size : Int) (strB s ++ r) (by omega) (by omega)
  have he : Rc.encT s ++ r = Cd.enc s.size ++ (strB s ++ r) := by rw [Rc.encT, List.append_assoc]
  have hl : (Cd.enc (s.size : Int) ++ (strB s ++ r)).length = Cd.width s.size + (s.size + r.length) := by simp [Cd.enc_length, strB_length]
  rw [he, Cd.decT, hd]
  simp only
  rw [if_neg (by simp), if_neg (by omega), if_neg (by rw [hl]; omega)]
  have e1 : ((Cd.enc (s.size : Int) ++ (strB s ++ r)).drop ((Cd.width (s.size : Int) : Nat) : Int).toNat) = strB s ++ r := by
    rw [Int.toNat_natCast, ← Cd.enc_length, List.drop_left]
  rw [e1, Int.toNat_natCast]
  rw [show (strB s ++ r).take s.size = strB s by rw [← strB_length s, List.take_left]]
  congr 1

theorem text_enc (s : ByteArray) (r : List Int) (hs : s.size ≤ 9223372036854775807) : (Rs.mk (Rc.encT s ++ r) 0).text = (s, ⟨r, 0⟩) := by
  unfold text
  rw [if_pos rfl]
  simp only [decT_enc s r hs, Int.toNat_natCast, strOf_B]
  rw [← Rc.encT_length, List.drop_left]

theorem decF_enc (b : Bool) (r : List Int) : Cd.decF (Rc.encF b ++ r) = (b, 1, 0) := by
  cases b
  · have hd : Cd.dec (Rc.encF false ++ r) = (0, 1, 0) := by simp [Rc.encF, Cd.dec]
    rw [Cd.decF, hd]
    simp
  · have hd : Cd.dec (Rc.encF true ++ r) = (1, 1, 0) := by simp [Rc.encF, Cd.dec]
    rw [Cd.decF, hd]
    simp

theorem flag_enc (b : Bool) (r : List Int) : (Rs.mk (Rc.encF b ++ r) 0).flag = (b, ⟨r, 0⟩) := by
  unfold flag
  rw [if_pos rfl]
  simp only [decF_enc b r]
  congr 1

theorem write_enc (x : Wr) (r : List Int) (h1 : x.key.size ≤ 9223372036854775807) (h2 : x.val.size ≤ 9223372036854775807) : (Rs.mk (Rc.wrB x ++ r) 0).write = (x, ⟨r, Rc.wrE x⟩) := by
  have he : Rc.wrB x ++ r = Rc.encT x.key ++ (Rc.encF x.del ++ (Rc.encT x.val ++ r)) := by simp only [Rc.wrB, List.append_assoc]
  unfold write
  rw [he, text_enc _ _ h1]
  simp only [flag_enc, text_enc _ _ h2, note]
  rfl

theorem stamped_enc (x : St) (r : List Int) (h1 : x.key.size ≤ 9223372036854775807) (h2 : x.val.size ≤ 9223372036854775807) (h3 : -9223372036854775808 ≤ x.ts) (h4 : x.ts ≤ 9223372036854775807) : (Rs.mk (Rc.stB x ++ r) 0).stamped = (x, ⟨r, 0⟩) := by
  have he : Rc.stB x ++ r = Rc.encT x.key ++ (Rc.encT x.val ++ (Cd.enc x.ts ++ r)) := by simp only [Rc.stB, List.append_assoc]
  unfold stamped
  rw [he, text_enc _ _ h1]
  simp only [text_enc _ _ h2, num_enc _ _ h3 h4]

theorem writes_enc (l : List Wr) (r : List Int) (a : ByteArray) (h : Rc.wsE a l = 0) : writes l.length ⟨Rc.wsB l ++ r, 0⟩ = (l, ⟨r, 0⟩) := by
  induction l generalizing a with
  | nil => simp [writes, Rc.wsB]
  | cons x t ih =>
    have hz := Rc.wsE_sizes h x (by simp)
    rw [Rc.wsE] at h
    split at h
    · rename_i h0
      split at h
      · cases h
      · have he : Rc.wsB (x :: t) ++ r = Rc.wrB x ++ (Rc.wsB t ++ r) := by simp [Rc.wsB]
        rw [List.length_cons, writes, he, write_enc x _ (by omega) (by omega), h0]
        simp only [ih x.key h]
    · contradiction

theorem stampeds_enc (l : List St) (r : List Int) (a : ByteArray) (h : Rc.stsE a l = 0) : stampeds l.length ⟨Rc.stsB l ++ r, 0⟩ = (l, ⟨r, 0⟩) := by
  induction l generalizing a with
  | nil => simp [stampeds, Rc.stsB]
  | cons x t ih =>
    have hz := Rc.stsE_sizes h x (by simp)
    rw [Rc.stsE] at h
    split at h
    · rename_i h0
      split at h
      · cases h
      · rename_i h5
        have he : Rc.stsB (x :: t) ++ r = Rc.stB x ++ (Rc.stsB t ++ r) := by simp [Rc.stsB]
        rw [List.length_cons, stampeds, he, stamped_enc x _ (by omega) (by omega) (by omega) (by omega)]
        simp only [ih x.key h]
    · contradiction

theorem count_enc (n most : Int) (r : List Int) (h0 : 0 ≤ n) (h1 : n ≤ most) (h2 : n ≤ 9223372036854775807) : (Rs.mk (Cd.enc n ++ r) 0).count most = (n, ⟨r, 0⟩) := by
  unfold count
  rw [num_enc n r (by omega) h2]
  rw [if_pos (Rc.inn_iff.2 ⟨h0, h1⟩)]

theorem commit_enc (ts : Int) (l : List Wr) (r : List Int) (h : Rc.comE ts l = 0) : (Rs.mk (Rc.comB ts l ++ r) 0).commit = (ts, l, ⟨r, 0⟩) := by
  obtain ⟨⟨t0, t1⟩, hl, _, hz, hw⟩ := Rc.comE_sizes h
  have he : Rc.comB ts l ++ r = Cd.enc ts ++ (Cd.enc l.length ++ (Rc.wsB l ++ r)) := by simp only [Rc.comB, List.append_assoc]
  unfold commit
  rw [he, num_enc ts _ (by omega) (by omega)]
  simp only [count_enc (l.length : Int) 64 _ (by omega) (by omega) (by omega), Int.toNat_natCast, writes_enc l r _ hw]

theorem chunk_enc (n : Int) (d : Bool) (l : List St) (r : List Int) (h : Rc.chE n l = 0) : (Rs.mk (Rc.chB n d l ++ r) 0).chunk = (n, d, l, ⟨r, 0⟩) := by
  obtain ⟨⟨t0, t1⟩, hl, hz, hw⟩ := Rc.chE_sizes h
  have he : Rc.chB n d l ++ r = Cd.enc n ++ (Rc.encF d ++ (Cd.enc l.length ++ (Rc.stsB l ++ r))) := by simp only [Rc.chB, List.append_assoc]
  unfold chunk
  rw [he, num_enc n _ (by omega) (by omega)]
  simp only [flag_enc, count_enc (l.length : Int) 16 _ (by omega) (by omega) (by omega), Int.toNat_natCast, stampeds_enc l r _ hw]

theorem master_enc (m : Ms) (r : List Int) (h : m.fits) : (Rs.mk (Rc.msB m ++ r) 0).master = (m, ⟨r, 0⟩) := by
  obtain ⟨⟨a0, b0⟩, ⟨a1, b1⟩, ⟨a2, b2⟩, ⟨a3, b3⟩, ⟨a4, b4⟩, ⟨a5, b5⟩, ⟨a6, b6⟩, ⟨a7, b7⟩⟩ := h
  have he : Rc.msB m ++ r = Cd.enc m.seq ++ (Cd.enc m.area ++ (Cd.enc m.chunks ++ (Cd.enc m.ts ++ (Cd.enc m.sector ++ (Cd.enc m.offset ++ (Cd.enc m.number ++ (Cd.enc m.run ++ r))))))) := by simp only [Rc.msB, List.append_assoc]
  unfold master
  rw [he, num_enc _ _ a0 b0]
  simp only [num_enc _ _ a1 b1, num_enc _ _ a2 b2, num_enc _ _ a3 b3, num_enc _ _ a4 b4, num_enc _ _ a5 b5, num_enc _ _ a6 b6, num_enc _ _ a7 b7]
end Rs

namespace Rc
theorem takeCom_back {ts : Int} {l : List Wr} (h : comE ts l = 0) : takeCom (comB ts l) = (ts, l, 0) := by
  have := Rs.commit_enc ts l [] h
  rw [List.append_nil] at this
  unfold takeCom
  simp only [this, Rs.more, Rs.note, h, List.length_nil, Nat.lt_irrefl, if_false, if_true]

theorem takeCom_more {ts : Int} {l : List Wr} (h : comE ts l = 0) (y : Int) : (takeCom (comB ts l ++ [y])).2.2 = 13 := by
  have := Rs.commit_enc ts l [y] h
  unfold takeCom
  simp [this, Rs.more, Rs.note]

theorem takeCh_back {n : Int} {d : Bool} {l : List St} (h : chE n l = 0) : takeCh (chB n d l) = (n, d, l, 0) := by
  have := Rs.chunk_enc n d l [] h
  rw [List.append_nil] at this
  unfold takeCh
  simp only [this, Rs.more, Rs.note, h, List.length_nil, Nat.lt_irrefl, if_false, if_true]

theorem takeMs_back {m : Ms} (h : msE m = 0) : takeMs (msB m) = (m, 0) := by
  have := Rs.master_enc m [] (msE_fits h)
  rw [List.append_nil] at this
  unfold takeMs
  simp only [this, Rs.more, Rs.note, h, List.length_nil, Nat.lt_irrefl, if_false, if_true]
end Rc

end Go.Proofs.Ytlfgclmgpbaenaa
