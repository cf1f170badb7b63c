/- What is read, written again, is the bytes. -/
import Derived.Test.YtlfgclmgpbaenaaRcEnd2
import Derived.Test.YtlfgclmgpbaenaaRcBk
namespace Go.Proofs.Ytlfgclmgpbaenaa
open Go.RowKit
set_option linter.unusedVariables false
set_option maxRecDepth 100000

namespace Rs
/-- Every byte is a byte. -/
def Byt (s : Rs) : Prop := ∀ y ∈ s.xs, 0 ≤ y ∧ y < 256

theorem num_one {s : Rs} (hb : s.Byt) (h : s.num.2.e = 0) : s.e = 0 ∧ s.xs = Cd.enc s.num.1 ++ s.num.2.xs := by
  unfold num at h ⊢
  split
  · rename_i h0
    rw [if_pos h0] at h
    refine ⟨h0, ?_⟩
    simp only at h ⊢
    rw [Cd.enc_dec s.xs hb h, List.take_append_drop]
  · rename_i h0
    rw [if_neg h0] at h
    exact absurd h h0

theorem text_one {s : Rs} (hb : s.Byt) (h : s.text.2.e = 0) : s.e = 0 ∧ s.xs = Rc.encT s.text.1 ++ s.text.2.xs := by
  unfold text at h ⊢
  split
  · rename_i h0
    rw [if_pos h0] at h
    refine ⟨h0, ?_⟩
    simp only at h ⊢
    rcases Cd.decT_facts s.xs hb with ⟨k, n, _, hd, _, hl, he, hn⟩ | ⟨_, _, hd⟩
    · rw [hd]
      simp only
      have hby : ∀ y ∈ (s.xs.drop k).take n, 0 ≤ y ∧ y < 256 := fun y hy => hb y (List.mem_of_mem_drop (List.mem_of_mem_take hy))
      have hsz : (strOfNums ((s.xs.drop k).take n)).size = n := by
        rw [← strB_length, strB_of _ hby, hn]
      rw [Rc.encT, hsz, strB_of _ hby, he, show ((k : Int) + (n : Int)).toNat = k + n by omega, ← List.drop_drop]
      rw [List.append_assoc, List.take_append_drop, List.take_append_drop]
    · omega
  · rename_i h0
    rw [if_neg h0] at h
    exact absurd h h0

theorem flag_one {s : Rs} (hb : s.Byt) (h : s.flag.2.e = 0) : s.e = 0 ∧ s.xs = Rc.encF s.flag.1 ++ s.flag.2.xs := by
  unfold flag at h ⊢
  split
  · rename_i h0
    rw [if_pos h0] at h
    refine ⟨h0, ?_⟩
    simp only at h ⊢
    unfold Cd.decF at h ⊢
    split
    · rename_i h1
      rw [if_pos h1] at h
      exact absurd h h1
    · rename_i h1
      rw [if_neg h1] at h
      have h1' : (Cd.dec s.xs).2.2 = 0 := by simpa using h1
      have he := Cd.enc_dec s.xs hb h1'
      split
      · rename_i h2
        rw [if_pos h2] at h
        simp at h
      · rename_i h2
        have h3 : (Cd.dec s.xs).1 = 0 ∨ (Cd.dec s.xs).1 = 1 := by omega
        rcases h3 with h3 | h3
        · rw [h3] at he ⊢
          have : Rc.encF (decide ((0 : Int) = 1)) = Cd.enc 0 := by decide
          rw [this, he, List.take_append_drop]
        · rw [h3] at he ⊢
          have : Rc.encF (decide ((1 : Int) = 1)) = Cd.enc 1 := by decide
          rw [this, he, List.take_append_drop]
  · rename_i h0
    rw [if_neg h0] at h
    exact absurd h h0

theorem note_one {s : Rs} {e : Int} (h : (s.note e).e = 0) : s.e = 0 ∧ e = 0 := by
  unfold note at h
  split at h
  · exact ⟨by assumption, h⟩
  · contradiction

theorem count_one {s : Rs} {m : Int} (hb : s.Byt) (h : (s.count m).2.e = 0) : s.e = 0 ∧ s.xs = Cd.enc (s.count m).1 ++ (s.count m).2.xs ∧ 0 ≤ (s.count m).1 := by
  unfold count at h ⊢
  split
  · rename_i h0
    rw [if_pos h0] at h
    have := num_one hb h
    exact ⟨this.1, this.2, (Rc.inn_iff.1 h0).1⟩
  · rename_i h0
    rw [if_neg h0] at h
    have := (note_one h).2
    omega

theorem write_one {s : Rs} (hb : s.Byt) (h : s.write.2.e = 0) : s.e = 0 ∧ s.xs = Rc.wrB s.write.1 ++ s.write.2.xs := by
  have h1 := note_one h
  have b1 : s.text.2.Byt := text_byte hb
  have b2 : s.text.2.flag.2.Byt := flag_byte b1
  have h2 := text_one b2 h1.1
  have h3 := flag_one b1 h2.1
  have h4 := text_one hb h3.1
  refine ⟨h4.1, ?_⟩
  have e : s.write.2.xs = s.text.2.flag.2.text.2.xs := note_xs _ _
  rw [e, h4.2, h3.2, h2.2]
  simp only [Rc.wrB, write, List.append_assoc]

theorem write_byte {s : Rs} (hb : s.Byt) : s.write.2.Byt := by
  unfold Byt
  have e : s.write.2.xs = s.text.2.flag.2.text.2.xs := note_xs _ _
  rw [e]
  exact text_byte (flag_byte (text_byte hb))

theorem stamped_one {s : Rs} (hb : s.Byt) (h : s.stamped.2.e = 0) : s.e = 0 ∧ s.xs = Rc.stB s.stamped.1 ++ s.stamped.2.xs := by
  have b1 : s.text.2.Byt := text_byte hb
  have b2 : s.text.2.text.2.Byt := text_byte b1
  have h2 := num_one b2 h
  have h3 := text_one b1 h2.1
  have h4 := text_one hb h3.1
  refine ⟨h4.1, ?_⟩
  rw [h4.2, h3.2, h2.2]
  simp only [Rc.stB, stamped, List.append_assoc]

theorem stamped_byte {s : Rs} (hb : s.Byt) : s.stamped.2.Byt := num_byte (text_byte (text_byte hb))

theorem writes_one : ∀ (n : Nat) {s : Rs}, s.Byt → (writes n s).2.e = 0 → s.e = 0 ∧ s.xs = Rc.wsB (writes n s).1 ++ (writes n s).2.xs ∧ (writes n s).1.length = n
  | 0, s, hb, h => ⟨h, by simp [writes, Rc.wsB], rfl⟩
  | n + 1, s, hb, h => by
    rw [writes] at h ⊢
    have h1 := writes_one n (write_byte hb) h
    have h2 := write_one hb h1.1
    refine ⟨h2.1, ?_, by simp [h1.2.2]⟩
    rw [h2.2, h1.2.1]
    simp [Rc.wsB]

theorem stampeds_one : ∀ (n : Nat) {s : Rs}, s.Byt → (stampeds n s).2.e = 0 → s.e = 0 ∧ s.xs = Rc.stsB (stampeds n s).1 ++ (stampeds n s).2.xs ∧ (stampeds n s).1.length = n
  | 0, s, hb, h => ⟨h, by simp [stampeds, Rc.stsB], rfl⟩
  | n + 1, s, hb, h => by
    rw [stampeds] at h ⊢
    have h1 := stampeds_one n (stamped_byte hb) h
    have h2 := stamped_one hb h1.1
    refine ⟨h2.1, ?_, by simp [h1.2.2]⟩
    rw [h2.2, h1.2.1]
    simp [Rc.stsB]

theorem more_one {s : Rs} (h : s.more.e = 0) : s.e = 0 ∧ s.xs = [] := by
  unfold more at h
  split at h
  · have := (note_one h).2
    omega
  · rename_i h0
    exact ⟨h, List.eq_nil_of_length_eq_zero (by omega)⟩

theorem commit_one {s : Rs} (hb : s.Byt) (h : s.commit.2.2.e = 0) : s.xs = Rc.comB s.commit.1 s.commit.2.1 ++ s.commit.2.2.xs := by
  have b1 : s.num.2.Byt := num_byte hb
  have b2 : (s.num.2.count 64).2.Byt := count_byte b1
  have h1 := writes_one _ b2 h
  have h2 := count_one b1 h1.1
  have h3 := num_one hb h2.1
  rw [h3.2, h2.2.1, h1.2.1]
  unfold Rc.comB commit
  simp only [List.append_assoc]
  rw [h1.2.2, Int.toNat_of_nonneg h2.2.2]

theorem chunk_one {s : Rs} (hb : s.Byt) (h : s.chunk.2.2.2.e = 0) : s.xs = Rc.chB s.chunk.1 s.chunk.2.1 s.chunk.2.2.1 ++ s.chunk.2.2.2.xs := by
  have b1 : s.num.2.Byt := num_byte hb
  have b2 : s.num.2.flag.2.Byt := flag_byte b1
  have b3 : (s.num.2.flag.2.count 16).2.Byt := count_byte b2
  have h1 := stampeds_one _ b3 h
  have h2 := count_one b2 h1.1
  have h3 := flag_one b1 h2.1
  have h4 := num_one hb h3.1
  rw [h4.2, h3.2, h2.2.1, h1.2.1]
  unfold Rc.chB chunk
  simp only [List.append_assoc]
  rw [h1.2.2, Int.toNat_of_nonneg h2.2.2]

theorem master_one {s : Rs} (hb : s.Byt) (h : s.master.2.e = 0) : s.xs = Rc.msB s.master.1 ++ s.master.2.xs := by
  have b1 : s.num.2.Byt := num_byte hb
  have b2 : s.num.2.num.2.Byt := num_byte b1
  have b3 : s.num.2.num.2.num.2.Byt := num_byte b2
  have b4 : s.num.2.num.2.num.2.num.2.Byt := num_byte b3
  have b5 : s.num.2.num.2.num.2.num.2.num.2.Byt := num_byte b4
  have b6 : s.num.2.num.2.num.2.num.2.num.2.num.2.Byt := num_byte b5
  have b7 : s.num.2.num.2.num.2.num.2.num.2.num.2.num.2.Byt := num_byte b6
  have h8 := num_one b7 h
  have h7 := num_one b6 h8.1
  have h6 := num_one b5 h7.1
  have h5 := num_one b4 h6.1
  have h4 := num_one b3 h5.1
  have h3 := num_one b2 h4.1
  have h2 := num_one b1 h3.1
  have h1 := num_one hb h2.1
  have e : s.master.2.xs = s.num.2.num.2.num.2.num.2.num.2.num.2.num.2.num.2.xs := rfl
  rw [e, h1.2, h2.2, h3.2, h4.2, h5.2, h6.2, h7.2, h8.2]
  simp only [Rc.msB, master, List.append_assoc]
end Rs

namespace Rc
theorem takeCom_one {xs : List Int} (hb : ∀ y ∈ xs, 0 ≤ y ∧ y < 256) (h : (takeCom xs).2.2 = 0) : comE (takeCom xs).1 (takeCom xs).2.1 = 0 ∧ comB (takeCom xs).1 (takeCom xs).2.1 = xs := by
  unfold takeCom at h ⊢
  simp only at h ⊢
  split
  · rename_i h0
    have h1 := Rs.note_one h0
    have h2 := Rs.more_one h1.1
    have h3 := Rs.commit_one (s := Rs.mk xs 0) hb h2.1
    rw [h2.2, List.append_nil] at h3
    exact ⟨h1.2, h3.symm⟩
  · rename_i h0
    rw [if_neg h0] at h
    exact absurd h h0

theorem takeCh_one {xs : List Int} (hb : ∀ y ∈ xs, 0 ≤ y ∧ y < 256) (h : (takeCh xs).2.2.2 = 0) : chE (takeCh xs).1 (takeCh xs).2.2.1 = 0 ∧ chB (takeCh xs).1 (takeCh xs).2.1 (takeCh xs).2.2.1 = xs := by
  unfold takeCh at h ⊢
  simp only at h ⊢
  split
  · rename_i h0
    have h1 := Rs.note_one h0
    have h2 := Rs.more_one h1.1
    have h3 := Rs.chunk_one (s := Rs.mk xs 0) hb h2.1
    rw [h2.2, List.append_nil] at h3
    exact ⟨h1.2, h3.symm⟩
  · rename_i h0
    rw [if_neg h0] at h
    exact absurd h h0

theorem takeMs_one {xs : List Int} (hb : ∀ y ∈ xs, 0 ≤ y ∧ y < 256) (h : (takeMs xs).2 = 0) : msE (takeMs xs).1 = 0 ∧ msB (takeMs xs).1 = xs := by
  unfold takeMs at h ⊢
  simp only at h ⊢
  split
  · rename_i h0
    have h1 := Rs.note_one h0
    have h2 := Rs.more_one h1.1
    have h3 := Rs.master_one (s := Rs.mk xs 0) hb h2.1
    rw [h2.2, List.append_nil] at h3
    exact ⟨h1.2, h3.symm⟩
  · rename_i h0
    rw [if_neg h0] at h
    exact absurd h h0

theorem encT_byte (s : ByteArray) (h : s.size ≤ 9223372036854775807) : ∀ y ∈ encT s, 0 ≤ y ∧ y < 256 := app_byte (enc_byte _ (by omega) (by omega)) (strB_byte s)
theorem encF_byte (b : Bool) : ∀ y ∈ encF b, 0 ≤ y ∧ y < 256 := by cases b <;> simp [encF]
theorem wrB_byte {x : Wr} (h1 : x.key.size ≤ 9223372036854775807) (h2 : x.val.size ≤ 9223372036854775807) : ∀ y ∈ wrB x, 0 ≤ y ∧ y < 256 := app_byte (app_byte (encT_byte _ h1) (encF_byte _)) (encT_byte _ h2)
theorem comB_byte {ts : Int} {l : List Wr} (h : comE ts l = 0) : ∀ y ∈ comB ts l, 0 ≤ y ∧ y < 256 := by
  obtain ⟨⟨t0, t1⟩, hl, _, hz, hw⟩ := comE_sizes h
  refine app_byte (app_byte (enc_byte _ (by omega) (by omega)) (enc_byte _ (by omega) (by omega))) ?_
  intro y hy
  simp only [wsB, List.mem_flatten, List.mem_map] at hy
  obtain ⟨z, ⟨g, hg, rfl⟩, hy⟩ := hy
  have := hz g hg
  exact wrB_byte (by omega) (by omega) y hy
theorem chB_byte {n : Int} {d : Bool} {l : List St} (h : chE n l = 0) (ht : ∀ g ∈ l, -9223372036854775808 ≤ g.ts ∧ g.ts ≤ 9223372036854775807) : ∀ y ∈ chB n d l, 0 ≤ y ∧ y < 256 := by
  obtain ⟨⟨t0, t1⟩, hl, hz, hw⟩ := chE_sizes h
  refine app_byte (app_byte (app_byte (enc_byte _ (by omega) (by omega)) (encF_byte _)) (enc_byte _ (by omega) (by omega))) ?_
  intro y hy
  simp only [stsB, List.mem_flatten, List.mem_map] at hy
  obtain ⟨z, ⟨g, hg, rfl⟩, hy⟩ := hy
  have h1 := hz g hg
  have h2 := ht g hg
  exact app_byte (app_byte (encT_byte _ (by omega)) (encT_byte _ (by omega))) (enc_byte _ h2.1 h2.2) y hy
theorem msB_byte {m : Ms} (h : msE m = 0) : ∀ y ∈ msB m, 0 ≤ y ∧ y < 256 := by
  obtain ⟨⟨a0, b0⟩, ⟨a1, b1⟩, ⟨a2, b2⟩, ⟨a3, b3⟩, ⟨a4, b4⟩, ⟨a5, b5⟩, ⟨a6, b6⟩, ⟨a7, b7⟩⟩ := msE_fits h
  exact app_byte (app_byte (app_byte (app_byte (app_byte (app_byte (app_byte (enc_byte _ a0 b0) (enc_byte _ a1 b1)) (enc_byte _ a2 b2)) (enc_byte _ a3 b3)) (enc_byte _ a4 b4)) (enc_byte _ a5 b5)) (enc_byte _ a6 b6)) (enc_byte _ a7 b7)
end Rc

end Go.Proofs.Ytlfgclmgpbaenaa
