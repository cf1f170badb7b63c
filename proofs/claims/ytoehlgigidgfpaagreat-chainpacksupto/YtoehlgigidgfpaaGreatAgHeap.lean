/- A slot is put among those that wait, and the lowest is taken. -/
import Derived.Test.YtoehlgigidgfpaaGreatAgWait
namespace Go.Proofs.YtoehlgigidgfpaaGreat
open Go.RowKit
set_option linter.unusedVariables false
set_option maxRecDepth 100000

/-- Behind a call on the row of numbers. -/
def Waits (w w' : World) (B : Nat) (t : TypeId) (c0 c1 c3 v : Value) (P : List Nat → Prop) : Prop := ∃ v' l', Wt w' B t c0 c1 c3 v' l' ∧ Hq.Is l' ∧ P l' ∧ Tn (B :: v.ownBlock.toList) w w' ∧ Nw w v v'

theorem wlen_any (p : Option Addr) (n c : Nat) (w : World) : Calls Tryz.prog 233 #[.slice p n c] w fun e w' => e = .returned (.int .i64 n) ∧ w' = w := by
  go_enter Tryz.func233, Tryz.ntmps233
  go_wp2
  go_ret
  exact ⟨rfl, rfl⟩

set_option maxHeartbeats 1000000 in
theorem hpush_any {w : World} {B : Nat} {t : TypeId} {c0 c1 c3 v : Value} {l : List Nat} (h : Wt w B t c0 c1 c3 v l) (hi : Hq.Is l) (n : Nat) (hl : l.length < 65536) :
    Calls Tryz.prog 125 #[.iface 183 (.pointer (some ⟨B, 2, none⟩)), .iface 3 (.int .i64 n)] w fun e w' => e = .returned (.tuple #[]) ∧ Waits w w' B t c0 c1 c3 v (fun l' => l'.Perm (l ++ [n])) := by
  have HW : Hid (Wt w B t c0 c1 c3 v l) := h
  have HI : Hid (Hq.Is l) := hi
  clear h hi
  have mp := meth_push B w
  go_enter Tryz.func125, Tryz.ntmps125
  go_wp2_with fail
  refine (push_any HW.out n hl).mono ?_
  rintro e w1 ⟨rfl, v1, hw1, ht1, hn1⟩
  have HW1 : Hid (Wt w1 B t c0 c1 c3 v1 (l ++ [n])) := hw1
  have ml := meth_len hw1.cell
  obtain ⟨p, c, hv, -⟩ := hw1.row.form
  have hlen : (l ++ [n]).length = l.length + 1 := by simp
  rw [hlen] at hv
  clear mp hw1
  subst hv
  go_wp2_with fail
  refine (wlen_any _ _ _ _).mono ?_
  rintro e w1' ⟨rfl, rfl⟩
  go_wp2_with fail
  refine (up_any HW1.out l.length (Hq.Up.begin HI.out n)).mono ?_
  rintro e w2 ⟨rfl, l2, hw2, hp2, hi2, ht2⟩
  have HE : Hid (Waits w w2 B t c0 c1 c3 v (fun l' => l'.Perm (l ++ [n]))) := by
    refine ⟨_, l2, hw2, hi2, hp2, ht1.trans ht2 ?_, hn1⟩
    intro x hx
    rcases hn1 x (opt_toList.1 hx) with h | h
    · exact .inl (by simp [opt_toList.2 h])
    · exact .inr h
  clear ml
  go_wp2
  go_end0
  exact ⟨rfl, HE.out⟩

set_option maxHeartbeats 1000000 in
theorem hpop_any {w : World} {B : Nat} {t : TypeId} {c0 c1 c3 v : Value} {l : List Nat} (n : Nat) (h : Wt w B t c0 c1 c3 v l) (hi : Hq.Is l) (hl : l.length = n + 1) :
    Calls Tryz.prog 127 #[.iface 183 (.pointer (some ⟨B, 2, none⟩))] w fun e w' => e = .returned (.iface 3 (.int .i64 (Hq.at' l 0))) ∧ Waits w w' B t c0 c1 c3 v (fun l' => (l' ++ [Hq.at' l 0]).Perm l) := by
  have HW : Hid (Wt w B t c0 c1 c3 v l) := h
  have HI : Hid (Hq.Is l) := hi
  have hlen := h.len
  obtain ⟨g, c, rfl, hc, hcm⟩ := h.row.has (by omega)
  have ml := meth_len h.cell
  have ms := meth_swap h.cell
  rw [hl] at ml ms
  clear h hi
  go_enter Tryz.func127, Tryz.ntmps127
  go_wp2_with fail
  refine (wlen_any _ _ _ _).mono ?_
  rintro e w1' ⟨rfl, hw'⟩
  rw [hw']
  clear hw' w1'
  go_wp2_with fail
  have HR : Hid (Nr w (.slice (some ⟨g, 0, none⟩) (n + 1) c) l) := by
    have := HW.out.row
    rw [hl] at this
    exact this
  refine (swap_any HR.out 0 n (by omega) (by omega) hlen).mono ?_
  rintro e w1 ⟨rfl, hr1, ht1⟩
  have HW1 : Hid (Wt w1 B t c0 c1 c3 (.slice (some ⟨g, 0, none⟩) l.length c) (Hq.swap l 0 n)) := HW.out.tn ht1 (by rw [hl]; exact hr1) (Hq.swap_length _ _ _)
  have HD : Hid (Hq.Dn (Hq.swap l 0 n) n 0) := by
    have := Hq.Dn.begin HI.out (by omega)
    rw [hl] at this
    exact this
  clear ml ms hr1
  go_wp2_with fail
  refine (down_any n HW1.out HD.out (by rw [Hq.swap_length]; exact hl)).mono ?_
  rintro e w2 ⟨⟨b, rfl⟩, l2, hw2, hp2, ha2, hi2, ht2, hl2⟩
  have mp := meth_pop B w2
  have HW2 : Hid (Wt w2 B t c0 c1 c3 (.slice (some ⟨g, 0, none⟩) l.length c) l2) := hw2
  have HI2 : Hid (Hq.Is (l2.take n)) := hi2
  clear hw2 hi2
  go_wp2_with fail
  refine (pop_any n HW2.out hl2).mono ?_
  rintro e w3 ⟨rfl, v3, hw3, ht3, hb3⟩
  have he : Hq.at' l2 n = Hq.at' l 0 := by
    rw [ha2, Hq.at_swap _ _ _ _ (by omega) (by omega), if_pos rfl]
  rw [he]
  have HE : Hid (Waits w w3 B t c0 c1 c3 (.slice (some ⟨g, 0, none⟩) l.length c) (fun l' => (l' ++ [Hq.at' l 0]).Perm l)) := by
    refine ⟨v3, l2.take n, hw3, HI2.out, ?_, ?_, fun k hk => .inl (by rw [← hb3]; exact hk)⟩
    · have := Hq.take_last hl2
      rw [he] at this
      show (List.take n l2 ++ [Hq.at' l 0]).Perm l
      rw [← this]
      exact hp2.trans (Hq.swap_perm _ _ _ (by omega) (by omega))
    · refine (((ht1.trans ht2 (fun x hx => .inl hx)).mono (by intro x hx; exact List.mem_cons_of_mem _ hx)).trans ht3 ?_)
      intro x hx
      exact .inl (by simp at hx; simp [hx])
  rw [hl] at HE
  clear mp HW HW1 HW2 HR ht1 ht2 ht3 hw3
  go_wp2
  go_ret
  exact ⟨rfl, by rw [hl]; exact HE.out⟩

theorem add_any {w : World} {B : Nat} {t : TypeId} {c0 c1 c3 v : Value} {l : List Nat} (h : Wt w B t c0 c1 c3 v l) (hi : Hq.Is l) (n : Nat) (hl : l.length < 65536) :
    Calls Tryz.prog 105 #[.pointer (some ⟨B, 2, none⟩), .int .i64 n] w fun e w' => e = .returned (.tuple #[]) ∧ Waits w w' B t c0 c1 c3 v (fun l' => l'.Perm (l ++ [n])) := by
  have HC : Hid (Calls Tryz.prog 125 #[.iface 183 (.pointer (some ⟨B, 2, none⟩)), .iface 3 (.int .i64 n)] w fun e w' => e = .returned (.tuple #[]) ∧ Waits w w' B t c0 c1 c3 v (fun l' => l'.Perm (l ++ [n]))) := hpush_any h hi n hl
  clear h hi
  go_enter Tryz.func105, Tryz.ntmps105
  go_wp2_with fail
  refine (HC.out).mono ?_
  rintro e w1 ⟨rfl, hw1⟩
  have HE : Hid _ := hw1
  clear HC hw1
  go_wp2
  go_end0
  exact ⟨rfl, HE.out⟩

set_option maxHeartbeats 1000000 in
theorem take_any {w : World} {B : Nat} {t : TypeId} {c0 c1 c3 v : Value} {l : List Nat} (n : Nat) (h : Wt w B t c0 c1 c3 v l) (hi : Hq.Is l) (hl : l.length = n + 1) :
    Calls Tryz.prog 113 #[.pointer (some ⟨B, 2, none⟩)] w fun e w' => e = .returned (.int .i64 (Hq.at' l 0)) ∧ Waits w w' B t c0 c1 c3 v (fun l' => (l' ++ [Hq.at' l 0]).Perm l) := by
  have HC : Hid (Calls Tryz.prog 127 #[.iface 183 (.pointer (some ⟨B, 2, none⟩))] w fun e w' => e = .returned (.iface 3 (.int .i64 (Hq.at' l 0))) ∧ Waits w w' B t c0 c1 c3 v (fun l' => (l' ++ [Hq.at' l 0]).Perm l)) := hpop_any n h hi hl
  obtain ⟨g, c, rfl, hc, hcm⟩ := h.row.has (by omega)
  have c2 := h.cell
  have c0' := h.row.cell rfl 0 (by omega)
  rw [hl] at c2
  clear h hi
  go_enter Tryz.func113, Tryz.ntmps113
  go_wp2_with fail
  refine (HC.out).mono ?_
  rintro e w1 ⟨rfl, hw1⟩
  have HE : Hid _ := hw1
  clear HC hw1
  go_wp2
  go_ret
  exact ⟨rfl, HE.out⟩
end Go.Proofs.YtoehlgigidgfpaaGreat
