/- The reference: reading, fuses. -/
import Derived.Test.YtpggnejifpcnmaaDkRefD
import Derived.Test.YtpggnejifpcnmaaDkOwnM
import Derived.Laws.IdiomStrings
namespace Go.Proofs.Ytpggnejifpcnmaa
open Go.RowKit Go.Shelf Go.Maps
set_option linter.unusedVariables false

theorem nums_size (xs : List Int) : (strOfNums xs).data.size = xs.length := by
  have := congrArg List.length (strOfNums_data xs)
  simpa using this

/-- '[]byte(s)'. -/
theorem conv_back (w : World) (xs : List Int) (hb : ∀ y ∈ xs, 0 ≤ y ∧ y < 256) : ∃ c w', (convert 9 32 (.string (strOfNums xs))).run Try.prog w = .ok (.slice (some ⟨w.heap.size, 0, none⟩) xs.length c) w' ∧ Bys w' (some ⟨w.heap.size, 0, none⟩) xs ∧ Below w.heap.size w w' := by
  have hs : (strOfNums xs).size = xs.length := nums_size xs
  have hr := run_bytes_of_string w 9 32 5 (strOfNums xs) Try.underlying9 Try.underlying32 Try.underlying5
  rw [hs] at hr
  refine ⟨_, _, hr, ?_, ((Below.refl _ _).drew).alloc (Nat.le_refl _) _⟩
  intro _
  refine ⟨w.heap.size, 0, rfl, fun i hi => ?_⟩
  have hi' : i < (strOfNums xs).data.size := by rw [nums_size]; exact hi
  rw [Nat.zero_add, cell_of_row _ w.heap.size i _ 5 _ (heap_alloc_new w.drew _), bytesRow_at (strOfNums xs) _ i hi']
  have e : (strOfNums xs).data[i] = UInt8.ofNat (xs.getD i 0).toNat := by
    have h1 : (strOfNums xs).data.toList[i]? = some (UInt8.ofNat (xs.getD i 0).toNat) := by
      rw [strOfNums_data]
      simp [hi, List.getD]
    have h2 := List.getElem?_eq_some_iff.1 h1
    obtain ⟨h3, h4⟩ := h2
    simpa using h4
  rw [e]
  have hy := hb (xs.getD i 0) (by simp [List.getD, hi])
  have e2 : ((UInt8.ofNat (xs.getD i 0).toNat).toNat : Int) = xs.getD i 0 := by
    rw [UInt8.toNat_ofNat', Nat.mod_eq_of_lt (by omega)]
    exact Int.toNat_of_nonneg hy.1
  rw [e2]

theorem IsRf.lastSec {w : World} {R N S D cN cS : Nat} {p : Option Addr} {c : Nat} {kk : List Bool} {kb : List Nat} {d : Dk} (h : IsRf w R N S D cN cS p c kk kb d) {i : Nat} (hi : i < d.n) : Sec (d.last i) := by
  unfold Dk.last
  cases hfi : d.dirty i with
  | none => exact h.secS i hi
  | some x => exact h.secD i x hfi

section
variable {w : World} {R : Nat} {bs : List Nat} {d : Dk}

set_option maxHeartbeats 2000000 in
theorem rread (h : Rf w R bs d) (i : Int) :
    Calls Try.prog 31 #[.pointer (some ⟨R, 0, none⟩), .int .i64 i] w fun e w' => ∃ v, e = .returned (.tuple #[v, .int .i64 (d.reach i)]) ∧ Below w.heap.size w w' ∧
      (d.reach i ≠ 0 → v = .slice none 0 0) ∧ (d.reach i = 0 → ∃ g c, v = .slice (some ⟨g, 0, none⟩) 512 c ∧ w.heap.size ≤ g ∧ Bys w' (some ⟨g, 0, none⟩) (d.last i.toNat)) := by
  have HR : Hid (Rf w R bs d) := h
  by_cases hr : d.reach i = 0
  · obtain ⟨hd, k, rfl, hk⟩ := Dk.reach_ok hr
    have HRE : Hid (d.reach (k : Int) = 0) := hr
    obtain ⟨N, S, D, cN, cS, q, cq, kk, kb, rfl, h⟩ := h
    obtain ⟨r0, -⟩ := h.cells
    obtain ⟨t0, -⟩ := h.now.cell hk
    have hsec := h.lastSec hk
    obtain ⟨c', w', hcv, hby, hbe⟩ := conv_back w (d.last k) hsec.2
    rw [hsec.1] at hcv
    have HBY : Hid (Bys w' (some ⟨w.heap.size, 0, none⟩) (d.last k)) := hby
    have HBE : Hid (Below w.heap.size w w') := hbe
    have hki : (k : Int) < (d.n : Int) := by omega
    have hn2 := h.n2
    clear h hsec hby hbe hd hr
    go_enter Try.func31, Try.ntmps31
    go_wp2_with fail
    refine (rmay HR.out _).mono ?_
    rintro e w1 ⟨rfl, rfl⟩
    rw [HRE.out]
    go_wp2
    go_ret2
    exact ⟨_, by rw [HRE.out]; rfl, HBE.out, fun h => absurd HRE.out h, fun _ => ⟨_, _, rfl, Nat.le_refl _, by rw [Int.toNat_natCast]; exact HBY.out⟩⟩
  · have HRE : Hid (¬ d.reach i = 0) := hr
    have hrb : (d.reach i != 0) = true := by simpa using hr
    clear h hr
    go_enter Try.func31, Try.ntmps31
    go_wp2_with fail
    refine (rmay HR.out _).mono ?_
    rintro e w1 ⟨rfl, rfl⟩
    go_wp2
    go_ret2
    exact ⟨_, rfl, Below.refl _ _, fun _ => rfl, fun h => absurd h HRE.out⟩

set_option maxHeartbeats 2000000 in
theorem rsetFuse (h : Rf w R bs d) (n : Int) (hmax : n ≤ 9223372036854775807) (p : Option Addr) (c : Nat) (ks : List Bool) (len : Nat) (hlen : ks.length = len) (hks : Bls w p ks) (hkR : ∀ ad, p = some ad → 0 < ks.length → ad.block ∉ bs) (hp : p = none → len = 0 ∧ c = 0) (hm : len ≤ 140737488355328) :
    Calls Try.prog 33 #[.pointer (some ⟨R, 0, none⟩), .int .i64 n, .slice p len c] w fun e w' => e = .returned (.int .i64 (d.setFuse n ks).1) ∧ RTurns w w' R bs (d.setFuse n ks).2 := by
  have HR : Hid (Rf w R bs d) := h
  by_cases h1 : n < 0
  · rw [show d.setFuse n ks = (1, d) by simp [Dk.setFuse, h1]]
    clear h hks hp hkR
    go_enter Try.func33, Try.ntmps33
    go_wp2
    go_ret
    exact ⟨rfl, RTurns.refl HR.out⟩
  · obtain ⟨kp, hkp⟩ : ∃ kp, d.setFuse n ks = (0, { d with left := n, keep := kp }) ∧ (n ≠ 0 → kp = ks) := by
      by_cases h2 : n = 0
      · subst h2
        exact ⟨[], by simp [Dk.setFuse], fun h => absurd rfl h⟩
      · exact ⟨ks, by simp [Dk.setFuse, h1, h2], fun _ => rfl⟩
    rw [hkp.1]
    have HKP : Hid (n ≠ 0 → kp = ks) := hkp.2
    obtain ⟨N, S, D, cN, cS, q, cq, kk, kb, rfl, h⟩ := h
    have HI : Hid (IsRf w R N S D cN cS q cq kk kb d) := h
    obtain ⟨-, -, -, r3, r4, -⟩ := h.cells
    have f3 := h.blk.frozen 3
    have f4 := h.blk.frozen 4
    have hRl : R < w.heap.size := h.blk.lt
    have HK : Hid (Bls (w.setCell ⟨R, 3, none⟩ (.int .i64 n)) p ks) := hks.tn (S := [R]) ((Tn.refl _ _).setCell (by simp) _) (fun ad ha hl => by have := hkR ad ha hl; simp at this ⊢; exact this.1)
    have HLEN : Hid (ks.length = len) := hlen
    have HPN : Hid (p = none → len = 0 ∧ c = 0) := hp
    have hn0 : 0 ≤ n := by omega
    clear h hks hp hkR hlen hkp HR
    go_enter Try.func33, Try.ntmps33
    go_wp2_with (refine wp_app_bools rfl _ _ rfl rfl p len c ks rfl HK.out HLEN.out HPN.out hm ?_; intro p' c' w2 hb' hge hnil hcap hblk hbel; refine Hid.out ?_)
    unfold Hid
    have hRl2 : R < (w.setCell ⟨R, 3, none⟩ (.int .i64 n)).heap.size := by simpa [World.setCell] using hRl
    have HB3 : Hid (Bk w2 R 65 #[.slice (some ⟨N, 0, none⟩) d.n cN, .slice (some ⟨S, 0, none⟩) d.n cS, .slice (some ⟨D, 0, none⟩) d.n d.n, .int .i64 n, .slice q kk.length cq, .int .i64 d.calls, .bool d.down]) := (HI.out.blk.set 3 _).below hbel hRl2
    have c4 := HB3.out.cell 4
    have g4 := HB3.out.frozen 4
    simp at c4
    have HBB : Hid (Bls w2 p' ks) := hb'
    have HGE : Hid (∀ ad, p' = some ad → w.heap.size ≤ ad.block ∧ ad.block < w2.heap.size) := fun ad ha => by
      have := hge ad ha
      simpa [World.setCell] using this
    have HT2 : Hid (Tn [R] w w2) := ((Tn.refl [R] w).setCell (p := ⟨R, 3, none⟩) (by simp) (.int .i64 n)).trans (Tn.of_below hbel []) (by simp)
    clear hb' hge hnil hblk hbel r3 r4 f3 f4
    go_wp2
    go_ret
    have t1 : Tn [R] w2 (w2.setCell ⟨R, 4, none⟩ (.slice p' len c')) := (Tn.refl _ _).setCell (by simp) _
    have t2 : Tn [R] w (w2.setCell ⟨R, 4, none⟩ (.slice p' len c')) := HT2.out.trans t1 (by simp)
    have hsz : (w2.setCell ⟨R, 4, none⟩ (.slice p' len c')).heap.size = w2.heap.size := by simp [World.setCell]
    have hge := HGE.out
    have hlt := HI.out.lt
    obtain ⟨n1, n2, n3, n4, n5, n6⟩ := HI.out.ne
    obtain ⟨kb2, hkb2⟩ : ∃ k, k = (match p' with | some ad => [ad.block] | none => ([] : List Nat)) := ⟨_, rfl⟩
    have hgb : ∀ b ∈ kb2, w.heap.size ≤ b ∧ b < (w2.setCell ⟨R, 4, none⟩ (.slice p' len c')).heap.size := by
      intro b hb
      rw [hsz]
      rw [hkb2] at hb
      cases p' with
      | none => simp at hb
      | some ad =>
        simp at hb
        subst hb
        exact hge ad rfl
    have hbk : Bk (w2.setCell ⟨R, 4, none⟩ (.slice p' len c')) R 65 #[.slice (some ⟨N, 0, none⟩) d.n cN, .slice (some ⟨S, 0, none⟩) d.n cS, .slice (some ⟨D, 0, none⟩) d.n d.n, .int .i64 n, .slice p' ks.length c', .int .i64 d.calls, .bool d.down] := by
      rw [HLEN.out]
      exact HB3.out.set 4 _
    refine ⟨rfl, _, ⟨N, S, D, cN, cS, p', c', ks, kb2, rfl, ?_⟩, t2.mono (by simp), fun b hb => ?_⟩
    · exact {
        blk := hbk
        now := HI.out.now.tn t2 (by simp; omega)
        sure := HI.out.sure.tn t2 (by simp; omega)
        dirty := HI.out.dirty.tn t2 (by simp; omega)
        keep := HBB.out.tn t1 (fun ad ha hl => by have := hge ad ha; simp; omega)
        kbs := fun ad ha _ => by rw [hkb2]; subst ha; exact List.mem_singleton.2 rfl
        kne := ⟨fun hh => by have := hgb _ hh; have := hlt R (by simp); omega, fun hh => by have := hgb _ hh; have := hlt N (by simp); omega, fun hh => by have := hgb _ hh; have := hlt S (by simp); omega, fun hh => by have := hgb _ hh; have := hlt D (by simp); omega⟩
        klt := fun b hb => (hgb b hb).2
        ne := HI.out.ne
        eqk := fun hn => (HKP.out hn).symm
        n1 := HI.out.n1
        n2 := HI.out.n2
        caps := HI.out.caps
        secS := HI.out.secS
        secD := HI.out.secD
        left := ⟨hn0, hmax⟩ }
    · simp only [List.mem_cons] at hb
      rcases hb with rfl | rfl | rfl | rfl | hb
      · exact .inl (by simp)
      · exact .inl (by simp)
      · exact .inl (by simp)
      · exact .inl (by simp)
      · exact .inr (hgb b hb).1
end

end Go.Proofs.Ytpggnejifpcnmaa
