import Derived.Test.YtlfgclmgpbaenaaVals
namespace Go.Proofs.Ytlfgclmgpbaenaa
namespace Cd

/-- The int that the k bytes at r's beginning say, each turned over by t. -/
def long (k : Nat) (t : Int) (r : List Int) : Int × Int × Int :=
  if r.length < k then (0, 0, 10)
  else if 9223372036854775807 < val ((r.take k).map (tn t)) then (0, 0, 11)
  else if width (if t = 255 then -1 - val ((r.take k).map (tn t)) else val ((r.take k).map (tn t))) ≠ 1 + k then (0, 0, 11)
  else (if t = 255 then -1 - val ((r.take k).map (tn t)) else val ((r.take k).map (tn t)), 1 + (k : Int), 0)

/-- The int that bytes begin with, how many bytes it has, the error. -/
def dec : List Int → Int × Int × Int
  | [] => (0, 0, 10)
  | h :: r =>
    if 216 < h then (0, 0, 11)
    else if 208 < h then long (h - 208).toNat 0 r
    else if h < 8 then long (8 - h).toNat 255 r
    else (h - 108, 1, 0)

theorem dec_cons (h : Int) (r : List Int) : dec (h :: r) = if 216 < h then (0, 0, 11) else if 208 < h then long (h - 208).toNat 0 r else if h < 8 then long (8 - h).toNat 255 r else (h - 108, 1, 0) := rfl

theorem long_over {k : Nat} {t : Int} {r : List Int} (h1 : ¬ r.length < k) (h2 : 9223372036854775807 < val ((r.take k).map (tn t))) : long k t r = (0, 0, 11) := by
  unfold long
  rw [if_neg h1, if_pos h2]

theorem long_bad0 {k : Nat} {r : List Int} (h1 : ¬ r.length < k) (h2 : val ((r.take k).map (tn 0)) ≤ 9223372036854775807) (h3 : ¬ width (val ((r.take k).map (tn 0))) = 1 + k) : long k 0 r = (0, 0, 11) := by
  unfold long
  rw [if_neg h1, if_neg (by omega), if_pos (by simpa using h3)]

theorem long_bad255 {k : Nat} {r : List Int} (h1 : ¬ r.length < k) (h2 : val ((r.take k).map (tn 255)) ≤ 9223372036854775807) (h3 : ¬ width (-1 - val ((r.take k).map (tn 255))) = 1 + k) : long k 255 r = (0, 0, 11) := by
  unfold long
  rw [if_neg h1, if_neg (by omega), if_pos (by simpa using h3)]

theorem long_good0 {k : Nat} {r : List Int} (h1 : ¬ r.length < k) (h2 : val ((r.take k).map (tn 0)) ≤ 9223372036854775807) (h3 : width (val ((r.take k).map (tn 0))) = 1 + k) : long k 0 r = (val ((r.take k).map (tn 0)), 1 + (k : Int), 0) := by
  unfold long
  rw [if_neg h1, if_neg (by omega), if_neg (by simpa using h3)]
  rfl

theorem long_good255 {k : Nat} {r : List Int} (h1 : ¬ r.length < k) (h2 : val ((r.take k).map (tn 255)) ≤ 9223372036854775807) (h3 : width (-1 - val ((r.take k).map (tn 255))) = 1 + k) : long k 255 r = (-1 - val ((r.take k).map (tn 255)), 1 + (k : Int), 0) := by
  unfold long
  rw [if_neg h1, if_neg (by omega), if_neg (by simpa using h3)]
  rfl

theorem long_val_bd (r : List Int) (k : Nat) (t : Int) (h : ∀ y ∈ r, 0 ≤ y ∧ y < 256) : 0 ≤ val ((r.take k).map (tn t)) := by
  refine (val_bd _ ?_).1
  intro y hy
  obtain ⟨z, hz, rfl⟩ := List.mem_map.1 hy
  exact tn_byte t z (h z (List.mem_of_mem_take hz))

end Cd
end Go.Proofs.Ytlfgclmgpbaenaa
