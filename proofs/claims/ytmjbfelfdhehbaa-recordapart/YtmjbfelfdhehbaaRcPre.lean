/- A beginning of a commit's bytes ends too early. -/
import Derived.Test.YtmjbfelfdhehbaaRcOne
namespace Go.Proofs.Ytmjbfelfdhehbaa
open Go.RowKit
set_option linter.unusedVariables false
set_option maxRecDepth 100000

/-- A beginning of an int's bytes ends too early. -/
theorem Cd.dec_pre (n : Int) (k : Nat) (h0 : -9223372036854775808 ≤ n) (h1 : n ≤ 9223372036854775807) (hk : k < (Cd.enc n).length) : Cd.dec ((Cd.enc n).take k) = (0, 0, 10) := by
  unfold Cd.enc at hk ⊢
  split
  · rw [if_pos (by assumption)] at hk
    simp at hk
    subst hk
    rfl
  · rename_i hs
    rw [if_neg hs] at hk
    have a := Cd.nb_pos n.toNat
    have b := Cd.nb_pos (-1 - n).toNat
    split
    · rename_i hp
      rw [if_pos hp] at hk
      simp only [List.length_cons, Cd.be_length] at hk
      cases k with
      | zero => rfl
      | succ j =>
        rw [List.take_succ_cons, Cd.dec_cons, if_neg (by omega), if_pos (by omega)]
        unfold Cd.long
        rw [if_pos]
        simp only [List.length_take, Cd.be_length]
        omega
    · rename_i hp
      rw [if_neg hp] at hk
      simp only [List.length_cons, List.length_map, Cd.be_length] at hk
      cases k with
      | zero => rfl
      | succ j =>
        rw [List.take_succ_cons, Cd.dec_cons, if_neg (by omega), if_neg (by omega), if_pos (by omega)]
        unfold Cd.long
        rw [if_pos]
        simp only [List.length_take, List.length_map, Cd.be_length]
        omega

namespace Rs
/-- Nothing was read, for the bytes end. -/
def Ends (s : Rs) : Prop := s.e = 10

theorem num_pre (n : Int) (r : List Int) (k : Nat) (h0 : -9223372036854775808 ≤ n) (h1 : n ≤ 9223372036854775807) : (k < (Cd.enc n).length ∧ (Rs.mk ((Cd.enc n ++ r).take k) 0).num.2.e = 10 ∧ (Rs.mk ((Cd.enc n ++ r).take k) 0).num.1 = 0) ∨ (Rs.mk ((Cd.enc n ++ r).take k) 0).num = (n, ⟨r.take (k - (Cd.enc n).length), 0⟩) ∧ (Cd.enc n).length ≤ k := by
  by_cases hk : k < (Cd.enc n).length
  · left
    have e : (Cd.enc n ++ r).take k = (Cd.enc n).take k := by rw [List.take_append_of_le_length (by omega)]
    rw [e]
    unfold num
    rw [if_pos rfl]
    simp only [Cd.dec_pre n k h0 h1 hk]
    exact ⟨hk, by trivial, by trivial⟩
  · right
    have e : (Cd.enc n ++ r).take k = Cd.enc n ++ r.take (k - (Cd.enc n).length) := by rw [List.take_append, List.take_of_length_le (by omega)]
    rw [e, num_enc n _ h0 h1]
    exact ⟨rfl, by omega⟩

theorem text_pre (s : ByteArray) (r : List Int) (k : Nat) (hs : s.size ≤ 9223372036854775807) : (k < (Rc.encT s).length ∧ (Rs.mk ((Rc.encT s ++ r).take k) 0).text.2.e = 10) ∨ (Rs.mk ((Rc.encT s ++ r).take k) 0).text = (s, ⟨r.take (k - (Rc.encT s).length), 0⟩) ∧ (Rc.encT s).length ≤ k := by
  by_cases hk : k < (Rc.encT s).length
  · left
    refine ⟨hk, ?_⟩
    have e : (Rc.encT s ++ r).take k = (Rc.encT s).take k := by rw [List.take_append_of_le_length (by omega)]
    rw [e]
    unfold text
    rw [if_pos rfl]
    simp only
    unfold Cd.decT
    have hl := Rc.encT_length s
    by_cases hk2 : k < (Cd.enc (s.size : Int)).length
    · have e2 : (Rc.encT s).take k = (Cd.enc (s.size : Int)).take k := by rw [Rc.encT, List.take_append_of_le_length (by omega)]
      rw [e2, Cd.dec_pre _ k (by omega) (by omega) hk2]
      rfl
    · have e2 : (Rc.encT s).take k = Cd.enc (s.size : Int) ++ (strB s).take (k - (Cd.enc (s.size : Int)).length) := by rw [Rc.encT, List.take_append, List.take_of_length_le (by omega)]
      have h3 := Cd.enc_length (s.size : Int)
      have h4 := strB_length s
      rw [e2, Cd.dec_enc _ _ (by omega) (by omega)]
      simp only
      rw [if_neg (by simp), if_neg (by omega), if_pos]
      simp only [List.length_append, List.length_take]
      omega
  · right
    have e : (Rc.encT s ++ r).take k = Rc.encT s ++ r.take (k - (Rc.encT s).length) := by rw [List.take_append, List.take_of_length_le (by omega)]
    rw [e, text_enc s _ hs]
    exact ⟨rfl, by omega⟩

theorem flag_pre (b : Bool) (r : List Int) (k : Nat) : (k < (Rc.encF b).length ∧ (Rs.mk ((Rc.encF b ++ r).take k) 0).flag.2.e = 10) ∨ (Rs.mk ((Rc.encF b ++ r).take k) 0).flag = (b, ⟨r.take (k - (Rc.encF b).length), 0⟩) ∧ (Rc.encF b).length ≤ k := by
  by_cases hk : k < (Rc.encF b).length
  · left
    refine ⟨hk, ?_⟩
    have hk0 : k = 0 := by simp [Rc.encF] at hk; omega
    subst hk0
    rfl
  · right
    have e : (Rc.encF b ++ r).take k = Rc.encF b ++ r.take (k - (Rc.encF b).length) := by rw [List.take_append, List.take_of_length_le (by omega)]
    rw [e, flag_enc]
    exact ⟨rfl, by omega⟩

/-- An error stays. -/
theorem num_stays {s : Rs} (h : s.e = 10) : s.num.2.e = 10 := by unfold num; rw [if_neg (by omega)]; exact h
theorem text_stays {s : Rs} (h : s.e = 10) : s.text.2.e = 10 := by unfold text; rw [if_neg (by omega)]; exact h
theorem flag_stays {s : Rs} (h : s.e = 10) : s.flag.2.e = 10 := by unfold flag; rw [if_neg (by omega)]; exact h
theorem note_stays {s : Rs} {e : Int} (h : s.e = 10) : (s.note e).e = 10 := by unfold note; rw [if_neg (by omega)]; exact h
theorem write_stays {s : Rs} (h : s.e = 10) : s.write.2.e = 10 := note_stays (text_stays (flag_stays (text_stays h)))
theorem writes_stays : ∀ (n : Nat) {s : Rs}, s.e = 10 → (writes n s).2.e = 10
  | 0, s, h => h
  | n + 1, s, h => by rw [writes]; exact writes_stays n (write_stays h)
theorem more_stays {s : Rs} (h : s.e = 10) : s.more.e = 10 := by
  unfold more
  split
  · exact note_stays h
  · exact h

theorem write_pre (x : Wr) (r : List Int) (k : Nat) (h1 : x.key.size ≤ 9223372036854775807) (h2 : x.val.size ≤ 9223372036854775807) (h3 : Rc.wrE x = 0) : (k < (Rc.wrB x).length ∧ (Rs.mk ((Rc.wrB x ++ r).take k) 0).write.2.e = 10) ∨ (Rs.mk ((Rc.wrB x ++ r).take k) 0).write = (x, ⟨r.take (k - (Rc.wrB x).length), 0⟩) ∧ (Rc.wrB x).length ≤ k := by
  by_cases hk : k < (Rc.wrB x).length
  · left
    refine ⟨hk, ?_⟩
    have he : Rc.wrB x ++ r = Rc.encT x.key ++ (Rc.encF x.del ++ (Rc.encT x.val ++ r)) := by simp only [Rc.wrB, List.append_assoc]
    have hl : (Rc.wrB x).length = (Rc.encT x.key).length + (Rc.encF x.del).length + (Rc.encT x.val).length := by simp [Rc.wrB]; omega
    rw [he]
    rcases text_pre x.key (Rc.encF x.del ++ (Rc.encT x.val ++ r)) k h1 with ⟨_, a⟩ | ⟨a, a2⟩
    · exact note_stays (text_stays (flag_stays a))
    · unfold write
      rw [a]
      simp only
      rcases flag_pre x.del (Rc.encT x.val ++ r) (k - (Rc.encT x.key).length) with ⟨_, b⟩ | ⟨b, b2⟩
      · exact note_stays (text_stays b)
      · rw [b]
        simp only
        rcases text_pre x.val r (k - (Rc.encT x.key).length - (Rc.encF x.del).length) h2 with ⟨_, c⟩ | ⟨c, c2⟩
        · exact note_stays c
        · omega
  · right
    have e : (Rc.wrB x ++ r).take k = Rc.wrB x ++ r.take (k - (Rc.wrB x).length) := by rw [List.take_append, List.take_of_length_le (by omega)]
    rw [e, write_enc x _ h1 h2, h3]
    exact ⟨rfl, by omega⟩

theorem writes_pre (l : List Wr) (r : List Int) (a : ByteArray) (k : Nat) (h : Rc.wsE a l = 0) (hk : k < (Rc.wsB l).length) : (writes l.length ⟨(Rc.wsB l ++ r).take k, 0⟩).2.e = 10 := by
  induction l generalizing a k with
  | nil => simp [Rc.wsB] at hk
  | cons x t ih =>
    have hz := Rc.wsE_sizes h x (by simp)
    rw [Rc.wsE] at h
    split at h
    · rename_i h0
      split at h
      · cases h
      · have he : Rc.wsB (x :: t) ++ r = Rc.wrB x ++ (Rc.wsB t ++ r) := by simp [Rc.wsB]
        have hl : (Rc.wsB (x :: t)).length = (Rc.wrB x).length + (Rc.wsB t).length := by simp [Rc.wsB]
        rw [List.length_cons, writes, he]
        simp only
        rcases write_pre x (Rc.wsB t ++ r) k (by omega) (by omega) h0 with ⟨_, b⟩ | ⟨b, b2⟩
        · exact writes_stays _ b
        · rw [b]
          exact ih x.key (k - (Rc.wrB x).length) h (by omega)
    · contradiction

theorem count_pre (n most : Int) (r : List Int) (k : Nat) (h0 : 0 ≤ n) (h1 : n ≤ most) (h2 : n ≤ 9223372036854775807) : (k < (Cd.enc n).length ∧ ((Rs.mk ((Cd.enc n ++ r).take k) 0).count most).2.e = 10) ∨ (Rs.mk ((Cd.enc n ++ r).take k) 0).count most = (n, ⟨r.take (k - (Cd.enc n).length), 0⟩) ∧ (Cd.enc n).length ≤ k := by
  rcases num_pre n r k (by omega) h2 with ⟨a, b, c⟩ | ⟨a, b⟩
  · left
    refine ⟨a, ?_⟩
    unfold count
    rw [c, if_pos (Rc.inn_iff.2 ⟨by omega, by omega⟩)]
    exact b
  · right
    unfold count
    rw [a, if_pos (Rc.inn_iff.2 ⟨h0, h1⟩)]
    exact ⟨rfl, b⟩

theorem commit_pre (ts : Int) (l : List Wr) (k : Nat) (h : Rc.comE ts l = 0) (hk : k < (Rc.comB ts l).length) : (Rs.mk ((Rc.comB ts l).take k) 0).commit.2.2.e = 10 := by
  obtain ⟨⟨t0, t1⟩, hl, _, hz, hw⟩ := Rc.comE_sizes h
  have he : Rc.comB ts l = Cd.enc ts ++ (Cd.enc l.length ++ (Rc.wsB l ++ [])) := by simp only [Rc.comB, List.append_assoc, List.append_nil]
  have hln : (Rc.comB ts l).length = (Cd.enc ts).length + (Cd.enc (l.length : Int)).length + (Rc.wsB l).length := by simp [Rc.comB]; omega
  rw [he]
  unfold commit
  rcases num_pre ts (Cd.enc l.length ++ (Rc.wsB l ++ [])) k (by omega) (by omega) with ⟨_, a, _⟩ | ⟨a, a2⟩
  · refine writes_stays _ ?_
    unfold count
    split
    · exact num_stays a
    · exact note_stays (num_stays a)
  · rw [a]
    simp only
    rcases count_pre (l.length : Int) 64 (Rc.wsB l ++ []) (k - (Cd.enc ts).length) (by omega) (by omega) (by omega) with ⟨_, b⟩ | ⟨b, b2⟩
    · exact writes_stays _ b
    · rw [b]
      simp only [Int.toNat_natCast]
      exact writes_pre l [] _ _ hw (by omega)
end Rs

namespace Rc
theorem takeCom_pre {ts : Int} {l : List Wr} (h : comE ts l = 0) {k : Nat} (hk : k < (comB ts l).length) : (takeCom ((comB ts l).take k)).2.2 = 10 := by
  have h1 := Rs.note_stays (e := comE (Rs.mk ((comB ts l).take k) 0).commit.1 (Rs.mk ((comB ts l).take k) 0).commit.2.1) (Rs.more_stays (Rs.commit_pre ts l k h hk))
  unfold takeCom
  simp only
  rw [h1, if_neg (by omega)]

theorem comB_inj {ts ts' : Int} {l l' : List Wr} (h : comE ts l = 0) (h' : comE ts' l' = 0) (e : comB ts l = comB ts' l') : ts = ts' ∧ l = l' := by
  have a := takeCom_back h
  have b := takeCom_back h'
  rw [e, b] at a
  simp only [Prod.mk.injEq] at a
  exact ⟨a.1.symm, a.2.1.symm⟩
end Rc

end Go.Proofs.Ytmjbfelfdhehbaa
