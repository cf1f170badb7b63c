/- An oracle: Publish. -/
import Derived.Test.YtdgphlghmjnjfaaOrB
namespace Go.Proofs.Ytdgphlghmjnjfaa
open Go.RowKit Go.Maps
set_option linter.unusedVariables false
set_option maxRecDepth 100000

section
variable {w : World} {B M : Nat} {o : Or}
theorem publish_any (h : IsOr w B M o) (hk : o.Ok) (ts : Nat) (hl : ts ≤ o.last) (hp : o.isP ts = false) : Calls Try.prog 18 #[.pointer (some ⟨B, 0, none⟩), .int .i64 (ts : Int)] w fun e w' => e = .returned (.int .i64 0) ∧ ∃ o', Ort w w' B M o' ∧ o.Pubd ts o' := by
  have c0 := h.c0
  have c2 := h.c2
  have hmx := hk.max
  have hN : ts < NN := by simp only [NN]; omega
  have hwf : (Lit.int .i64 (ts : Int)).wf = true := WalkArith.wf_i64 (by omega)
  have HP : Hid (o.isPub (ts : Int) = false) := by rw [Or.isPub_nat ts hN]; exact hp
  have hnl : ¬ (o.last : Int) < (ts : Int) := by omega
  have HK : Hid (o.Ok ∧ ts ≤ o.last ∧ o.isP ts = false) := ⟨hk, hl, hp⟩
  clear hk hp
  go_enter Try.func18, Try.ntmps18
  go_wp2_with fail
  refine (made_any c2).mono ?_
  rintro e w1 ⟨rfl, rfl⟩
  go_wp2_with fail
  refine (aload_any c0).mono ?_
  rintro e w1 ⟨rfl, rfl⟩
  go_wp2_with fail
  refine (isPub_any h _ hwf).mono ?_
  rintro e w2 ⟨rfl, hbl⟩
  rw [HP.out]
  have h2 := h.below hbl
  have c22 := h2.c2
  obtain ⟨w3, hu, hm3, ht3⟩ := h2.mp.put uReads (t := 58) Try.underlying58 ts hN (by simp only [NN]; omega) ()
  simp only [uv] at hu
  have h3 := h2.setMap hm3 ht3
  have HT : Hid (Ort w1 w3 B M { o with ah := upd o.ah ts () }) := ⟨h3, (Tn.of_below hbl [B, M]).trans ht3 (fun x hx => .inl (by simp at hx; simp [hx]))⟩
  have HO : Hid (Or.Ok0 { o with ah := upd o.ah ts () }) := by
    obtain ⟨k1, k2, k3⟩ := HK.out
    refine ⟨k1.le, k1.max, fun i hi => ?_, k1.v17, k1.vle⟩
    simp only [upd] at hi
    split at hi
    · rename_i e
      subst e
      refine ⟨?_, k2⟩
      simp only [Or.isP, Bool.or_eq_false_iff, decide_eq_false_iff_not] at k3
      simp only
      omega
    · exact k1.ah i hi
  have hnl2 : decide (o.last < ts) = false := by simp; omega
  simp only [hnl2]
  clear h h2 hm3 ht3 hbl hwf h3 hN hmx hl hnl c0 c2 hnl2
  go_wp2_with fail
  refine (catchUp_any HT.out.is HO.out).mono ?_
  rintro e w4 ⟨⟨v, rfl⟩, o', ht4, hup, hgap⟩
  have HE : Hid (∃ o', Ort w1 w4 B M o' ∧ o.Pubd ts o') := by
    refine ⟨o', HT.out.trans ht4, ⟨⟨hup.ok, hgap⟩, hup.last, hup.views, hup.pub, fun i => ?_⟩⟩
    rw [hup.isP i]
    simp only [Or.isP, upd]
    by_cases hi : i = ts
    · subst hi; simp
    · simp [hi]
  clear ht4 hup hgap HT HO
  go_wp2
  go_ret
  exact ⟨rfl, HE.out⟩
end
end Go.Proofs.Ytdgphlghmjnjfaa
