/- Whatever a script does to an oracle, what is published and the watermark never fall, and the watermark is not above what is published, nor that above the last timestamp. -/
import Derived.Test.YtdgphlghmjnjfaaOrD
namespace Go.Proofs.Ytdgphlghmjnjfaa
open Go.ChangeShapes Go.WideShapes Go.ChangeAt Go.RowKit
open Go.ChangeMaps (open_string shut_string)
set_option linter.unusedVariables false
set_option maxRecDepth 100000

/-- Between the rounds. -/
structure Ri (w wr : World) (B M : Nat) (o : Or) : Prop where
  is : IsOr wr B M o
  ok : o.Ok
  below : Below w.heap.size w wr
  hB : w.heap.size ≤ B
  hM : w.heap.size ≤ M

theorem Ri.step {w wr wo w3 : World} {B M : Nat} {o o' : Or} (h : Ri w wr B M o) (hb : Below wr.heap.size wr wo) (ht : Ort wo w3 B M o') (hk : o'.Ok) : Ri w w3 B M o' :=
  ⟨ht.is, hk, (h.below.trans (hb.mono h.below.size)).trans (ht.tn.below (Nat.le_trans h.below.size hb.size) (by simp; exact ⟨h.hB, h.hM⟩)), h.hB, h.hM⟩

/-- An operation is boxed. -/
theorem oop_box (wr : World) (g : Oop) : ∃ wo, wr.alloc (.cells #[.int .i64 g.dd, .int .i64 g.s, .int .i64 g.ts, .bool g.odd] 32) = wo ∧ Below wr.heap.size wr wo ∧ Bk wo wr.heap.size 32 #[.int .i64 g.dd, .int .i64 g.s, .int .i64 g.ts, .bool g.odd] :=
  ⟨_, rfl, (Below.refl _ wr).alloc (Nat.le_refl _) _, Bk.new _ _ _⟩

theorem InOo.cells {w : World} {p : Option Addr} {len cap : Nat} {l : List Oop} (h : InOo w p len cap l) {j : Nat} (hj : j < len) : ∃ b o g, p = some ⟨b, o, none⟩ ∧ l[j]? = some g ∧ g.ok ∧ w.cell? ⟨b, o + j * 4, none⟩ = some (.int .i64 g.dd) ∧ w.cell? ⟨b, o + j * 4 + 1, none⟩ = some (.int .i64 g.s) ∧ w.cell? ⟨b, o + j * 4 + 2, none⟩ = some (.int .i64 g.ts) ∧ w.cell? ⟨b, o + j * 4 + 3, none⟩ = some (.bool g.odd) := by
  obtain ⟨b, o, g, hp, hl, hok, hc⟩ := h.at hj
  exact ⟨b, o, g, hp, hl, hok, hc 0 _ rfl, hc 1 _ rfl, hc 2 _ rfl, hc 3 _ rfl⟩

set_option maxHeartbeats 16000000 in
theorem walk_oracleRises (q : Int) (p : Option Addr) (len cap : Nat) (l : List Oop) (w : World) (hq : (Lit.int .i64 q).wf = true) (hin : InOo w p len cap l) :
    Calls Try.prog 4 #[.int .i64 q, .slice p len cap] w fun e w' => e = .returned (.bool true) ∧ Below w.heap.size w w' := by
  have HI : Hid (InOo w p len cap l) := hin
  have hlen : len ≤ 4398046510976 := Nat.le_trans hin.le hin.room
  clear hin hq
  by_cases hbad : q < 0 ∨ (1099511627776 : Int) < q
  · have HB : Hid (q < 0 ∨ (1099511627776 : Int) < q) := hbad
    clear hbad
    go_enter Try.func4, Try.ntmps4
    go_wp2_with fail
    refine (new_bad w q HB.out).mono ?_
    rintro r w1 ⟨rfl, rfl⟩
    go_wp2_with fail
    refine (begun_any _).mono ?_
    rintro r w2 ⟨rfl, hb2⟩
    have HB2 : Hid (Below w1.heap.size w1 w2) := hb2
    clear hb2
    rcases HB.out with h1 | h1
    · go_wp2
      go_ret
      exact ⟨by simp, HB2.out⟩
    · by_cases h2 : q < 0
      · go_wp2
        go_ret
        exact ⟨by simp, HB2.out⟩
      · go_wp2
        go_ret
        exact ⟨by simp, HB2.out⟩
  · obtain ⟨n, rfl⟩ : ∃ n : Nat, q = (n : Int) := ⟨q.toNat, by omega⟩
    have hn : n ≤ 1099511627776 := by omega
    clear hbad
    go_enter Try.func4, Try.ntmps4
    go_wp2_with fail
    refine (new_any w n hn).mono ?_
    rintro r w1 ⟨rfl, hO1, hb1⟩
    have HO1 : Hid (IsOr w1 (w.heap.size + 1) w.heap.size (Or.begin n n) ∧ Below w.heap.size w w1) := ⟨hO1, hb1⟩
    clear hO1 hb1
    go_wp2_with fail
    refine (begun_any _).mono ?_
    rintro r w2 ⟨rfl, hb2⟩
    have HR2 : Hid (Ri w w2 (w.heap.size + 1) w.heap.size (Or.begin n n)) := ⟨HO1.out.1.below hb2, Or.begin_ok n hn, HO1.out.2.trans (hb2.mono HO1.out.2.size), by omega, Nat.le_refl _⟩
    clear hb2 HO1
    generalize Or.begin n n = o1 at HR2
    obtain ⟨B, hB⟩ : ∃ B, w.heap.size + 1 = B := ⟨_, rfl⟩
    obtain ⟨M, hM⟩ : ∃ M, w.heap.size = M := ⟨_, rfl⟩
    have HR3 : Hid (Ri w w2 B M o1) := by rw [← hB, ← hM]; exact HR2.out
    have c1 := HR3.out.is.c1
    have c2 := HR3.out.is.c2
    rw [hB]
    clear hB hM HR2
    go_wp2_with fail
    refine (published_any c1 c2).mono ?_
    rintro r w3 ⟨rfl, rfl⟩
    go_wp2_with fail
    refine (water_any HR3.out.is HR3.out.ok).mono ?_
    rintro r w4 ⟨rfl, rfl⟩
    clear c1 c2
    go_wp2_with fail
    go_loopw [7, 8, 41] (fun av bv iv wr => ∃ (j : Nat) (o : Or), j ≤ len ∧ iv = .int .i64 j ∧ av = .int .i64 (o.pub : Int) ∧ bv = .int .i64 (o.water : Int) ∧ Hid (Ri w wr B M o)) (fun av bv iv _ => len - (intOf iv).toNat)
    case atStart => exact ⟨0, o1, Nat.zero_le _, rfl, rfl, rfl, HR3⟩
    case round =>
      obtain ⟨j, o, hj, rfl, rfl, rfl, HS⟩ := hrel
      by_cases hlt : j < len
      · have hli : (j : Int) < (len : Int) := by omega
        obtain ⟨b, off, g, rfl, hg, hok, e0, e1, e2, e3⟩ := InOo.cells (HI.out.up HS.out.below) hlt
        obtain ⟨wo, hwo, hbo, kbo⟩ := oop_box wr g
        have d0 : wo.cell? ⟨wr.heap.size, 0, none⟩ = some (.int .i64 g.dd) := kbo.cell 0
        have d1 : wo.cell? ⟨wr.heap.size, 1, none⟩ = some (.int .i64 g.s) := kbo.cell 1
        have d2 : wo.cell? ⟨wr.heap.size, 2, none⟩ = some (.int .i64 g.ts) := kbo.cell 2
        have d3 : wo.cell? ⟨wr.heap.size, 3, none⟩ = some (.bool g.odd) := kbo.cell 3
        have HO : Hid (IsOr wo B M o ∧ o.Ok ∧ Below wr.heap.size wr wo ∧ g.ok ∧ Bk wo wr.heap.size 32 #[.int .i64 g.dd, .int .i64 g.s, .int .i64 g.ts, .bool g.odd]) := ⟨HS.out.is.below hbo, HS.out.ok, hbo, hok, kbo⟩
        have HTAIL : Hid (∀ w3 o', Ort wo w3 B M o' → o.Le o' → Hid (Ri w w3 B M o') ∧ ¬ (o'.pub : Int) < (o.pub : Int) ∧ ¬ (o'.water : Int) < (o.water : Int) ∧ ¬ (o'.pub : Int) < (o'.water : Int) ∧ ¬ (o'.last : Int) < (o'.pub : Int)) := fun w3 o' ht hl => by
          have h1 := hl.pub
          have h2 := hl.water
          have h3 := o'.water_le
          have h4 := hl.ok.le
          exact ⟨HS.out.step hbo ht hl.ok, by omega, by omega, by omega, by omega⟩
        clear hg hok hbo kbo
        by_cases h0 : g.dd = 0
        · as_aux_lemma =>
            have HD : Hid (g.dd = 0) := h0
            rw [h0] at hwo d0 e0
            clear h0
            go_wp2_with fail
            refine (next_all HO.out.1 HO.out.2.1).mono ?_
            rintro r w3 ⟨rfl, hT⟩
            obtain ⟨o', ho'⟩ : ∃ o', o.nextR.2.2 = o' := ⟨_, rfl⟩
            have HT : Hid (Ort wo w3 B M o' ∧ o.Le o') := by rw [← ho']; exact ⟨hT, Or.nextR_le HO.out.2.1⟩
            clear hT ho'
            obtain ⟨HS', q1, q2, q3, q4⟩ := HTAIL.out w3 o' HT.out.1 HT.out.2
            have k0 := HS'.out.is.c0
            have k1 := HS'.out.is.c1
            have k2 := HS'.out.is.c2
            have HW : Hid (Calls Try.prog 14 #[.pointer (some ⟨B, 0, none⟩)] w3 fun e w' => e = .returned (.int .i64 (o'.water : Int)) ∧ w' = w3) := water_any HS'.out.is HS'.out.ok
            have HREL : Hid (∃ (jj : Nat) (oo : Or), jj ≤ len ∧ j + 1 = jj ∧ oo.pub = o'.pub ∧ oo.water = o'.water ∧ Hid (Ri w w3 B M oo)) := ⟨j + 1, o', by omega, rfl, rfl, rfl, HS'⟩
            clear HT HTAIL
            go_wp2_with fail
            refine (published_any k1 k2).mono ?_
            rintro r wa ⟨rfl, rfl⟩
            go_wp2_with fail
            refine Calls.mono HW.out ?_
            rintro r wa ⟨rfl, rfl⟩
            go_wp2_with fail
            refine Calls.mono HW.out ?_
            rintro r wa ⟨rfl, rfl⟩
            go_wp2_with fail
            refine (published_any k1 k2).mono ?_
            rintro r wa ⟨rfl, rfl⟩
            go_wp2_with fail
            refine (published_any k1 k2).mono ?_
            rintro r wa ⟨rfl, rfl⟩
            go_wp2_with fail
            refine (last_any k0 k2).mono ?_
            rintro r wa ⟨rfl, rfl⟩
            go_wp2_with fail
            refine (published_any k1 k2).mono ?_
            rintro r wa ⟨rfl, rfl⟩
            go_wp2_with fail
            refine Calls.mono HW.out ?_
            rintro r wa ⟨rfl, rfl⟩
            go_wp2
            go_roundw
            case rel =>
              exact ⟨j + 1, o', by omega, by go_num, rfl, rfl, HS'⟩
            case measure => simp [intOf]; omega
        · skip
          by_cases h1 : g.dd = 1
          · as_aux_lemma =>
              have HD : Hid (g.dd = 1) := h1
              rw [h1] at hwo d0 e0
              clear h1
              have z0 := HO.out.1.c0
              have z2 := HO.out.1.c2
              have HM : Hid (o.last ≤ 1099511627776) := HO.out.2.1.max
              have HDR : Hid (Below wo.heap.size wo (wo.drewN 1)) := ⟨rfl, rfl, rfl, Nat.le_refl _, fun _ _ => rfl⟩
              have HC : Hid (∀ W, Tn [B, M] wo W → W.cell? ⟨wr.heap.size, 0, none⟩ = some (.int .i64 1) ∧ W.cell? ⟨wr.heap.size, 1, none⟩ = some (.int .i64 g.s) ∧ W.cell? ⟨wr.heap.size, 2, none⟩ = some (.int .i64 g.ts) ∧ W.cell? ⟨wr.heap.size, 3, none⟩ = some (.bool g.odd)) := fun W hW => by
                have hB := HS.out.is.ltB
                have hM := HS.out.is.ltM
                have k := HO.out.2.2.2.2.tn hW (by simp; omega)
                rw [HD.out] at k
                exact ⟨k.cell 0, k.cell 1, k.cell 2, k.cell 3⟩
              go_wp2_with fail
              go_region_held3 (fun w' => w'.cell? ⟨wr.heap.size, 0, none⟩ = some (.int .i64 1) ∧ w'.cell? ⟨wr.heap.size, 1, none⟩ = some (.int .i64 g.s) ∧ w'.cell? ⟨wr.heap.size, 2, none⟩ = some (.int .i64 g.ts) ∧ w'.cell? ⟨wr.heap.size, 3, none⟩ = some (.bool g.odd)) (go_keep) (first
                | (go_at_call 11; refine (last_any (M := M) (n := (o.last : Int)) (by exact z0) (by exact z2)).mono ?_; rintro r w3 ⟨rfl, rfl⟩)
                | (go_at_call 19; refine (stamp_box HD.out _ o.last HM.out).mono ?_; rintro r w4 ⟨rfl, hb4⟩; have HB4 : Hid (Below wo.heap.size wo w4) := HDR.out.trans hb4; obtain ⟨s0, s1, s2, s3⟩ := HC.out w4 (Tn.of_below HB4.out _))
                | (go_at_call 18; refine (publish_all (HO.out.1.below HB4.out) HO.out.2.1 _ (Oop.stamp_wf HO.out.2.2.2.1 _ HM.out)).mono ?_; rintro r w3 ⟨x, o', rfl, hT, hP⟩; obtain ⟨t0, t1, t2, t3⟩ := HC.out w3 ((Tn.of_below HB4.out [B, M]).trans hT.tn (fun y hy => .inl hy))))
              have HT : Hid (Ort wo w3 B M o' ∧ o.Le o') := ⟨(Ort.of_below HO.out.1 HB4.out).trans hT, hP.le HO.out.2.1⟩
              clear hT hP HB4 hb4 HC
              obtain ⟨HS', q1, q2, q3, q4⟩ := HTAIL.out w3 o' HT.out.1 HT.out.2
              have k0 := HS'.out.is.c0
              have k1 := HS'.out.is.c1
              have k2 := HS'.out.is.c2
              have HW : Hid (Calls Try.prog 14 #[.pointer (some ⟨B, 0, none⟩)] w3 fun e w' => e = .returned (.int .i64 (o'.water : Int)) ∧ w' = w3) := water_any HS'.out.is HS'.out.ok
              have HREL : Hid (∃ (jj : Nat) (oo : Or), jj ≤ len ∧ j + 1 = jj ∧ oo.pub = o'.pub ∧ oo.water = o'.water ∧ Hid (Ri w w3 B M oo)) := ⟨j + 1, o', by omega, rfl, rfl, rfl, HS'⟩
              clear HT HTAIL
              go_wp2_with fail
              refine (published_any k1 k2).mono ?_
              rintro r wa ⟨rfl, rfl⟩
              go_wp2_with fail
              refine Calls.mono HW.out ?_
              rintro r wa ⟨rfl, rfl⟩
              go_wp2_with fail
              refine Calls.mono HW.out ?_
              rintro r wa ⟨rfl, rfl⟩
              go_wp2_with fail
              refine (published_any k1 k2).mono ?_
              rintro r wa ⟨rfl, rfl⟩
              go_wp2_with fail
              refine (published_any k1 k2).mono ?_
              rintro r wa ⟨rfl, rfl⟩
              go_wp2_with fail
              refine (last_any k0 k2).mono ?_
              rintro r wa ⟨rfl, rfl⟩
              go_wp2_with fail
              refine (published_any k1 k2).mono ?_
              rintro r wa ⟨rfl, rfl⟩
              go_wp2_with fail
              refine Calls.mono HW.out ?_
              rintro r wa ⟨rfl, rfl⟩
              go_wp2
              go_roundw
              case rel =>
                exact ⟨j + 1, o', by omega, by go_num, rfl, rfl, HS'⟩
              case measure => simp [intOf]; omega
          · skip
            by_cases h2 : g.dd = 2
            · as_aux_lemma =>
                have HD : Hid (g.dd = 2) := h2
                rw [h2] at hwo d0 e0
                clear h2
                go_wp2_with fail
                refine (open_all HO.out.1 HO.out.2.1 g.s).mono ?_
                rintro r w3 ⟨rfl, hT⟩
                have HQ : Hid ((o.openR g.s).2.1 = 0 → (o.openR g.s).1 = ((o.openR g.s).2.2.pub : Int)) := by
                  unfold Or.openR
                  split
                  · split
                    · intro _; rfl
                    · intro h; cases h
                  · intro h; cases h
                obtain ⟨o', ho'⟩ : ∃ o', (o.openR g.s).2.2 = o' := ⟨_, rfl⟩
                have HT : Hid (Ort wo w3 B M o' ∧ o.Le o') := by rw [← ho']; exact ⟨hT, Or.openR_le HO.out.2.1 _⟩
                rw [ho'] at HQ
                clear hT ho'
                generalize (o.openR g.s).1 = ra at *
                generalize (o.openR g.s).2.1 = rb at *
                have u1 := HT.out.1.is.c1
                have u2 := HT.out.1.is.c2
                by_cases hrb : rb = 0
                · have hra := HQ.out hrb
                  subst hrb
                  subst hra
                  clear HQ
                  go_wp2_with fail
                  refine (published_any u1 u2).mono ?_
                  rintro r w3 ⟨rfl, rfl⟩
                  obtain ⟨HS', q1, q2, q3, q4⟩ := HTAIL.out w3 o' HT.out.1 HT.out.2
                  have k0 := HS'.out.is.c0
                  have k1 := HS'.out.is.c1
                  have k2 := HS'.out.is.c2
                  have HW : Hid (Calls Try.prog 14 #[.pointer (some ⟨B, 0, none⟩)] w3 fun e w' => e = .returned (.int .i64 (o'.water : Int)) ∧ w' = w3) := water_any HS'.out.is HS'.out.ok
                  have HREL : Hid (∃ (jj : Nat) (oo : Or), jj ≤ len ∧ j + 1 = jj ∧ oo.pub = o'.pub ∧ oo.water = o'.water ∧ Hid (Ri w w3 B M oo)) := ⟨j + 1, o', by omega, rfl, rfl, rfl, HS'⟩
                  clear HT HTAIL
                  go_wp2_with fail
                  refine (published_any k1 k2).mono ?_
                  rintro r wa ⟨rfl, rfl⟩
                  go_wp2_with fail
                  refine Calls.mono HW.out ?_
                  rintro r wa ⟨rfl, rfl⟩
                  go_wp2_with fail
                  refine Calls.mono HW.out ?_
                  rintro r wa ⟨rfl, rfl⟩
                  go_wp2_with fail
                  refine (published_any k1 k2).mono ?_
                  rintro r wa ⟨rfl, rfl⟩
                  go_wp2_with fail
                  refine (published_any k1 k2).mono ?_
                  rintro r wa ⟨rfl, rfl⟩
                  go_wp2_with fail
                  refine (last_any k0 k2).mono ?_
                  rintro r wa ⟨rfl, rfl⟩
                  go_wp2_with fail
                  refine (published_any k1 k2).mono ?_
                  rintro r wa ⟨rfl, rfl⟩
                  go_wp2_with fail
                  refine Calls.mono HW.out ?_
                  rintro r wa ⟨rfl, rfl⟩
                  go_wp2
                  go_roundw
                  case rel =>
                    exact ⟨j + 1, o', by omega, by go_num, rfl, rfl, HS'⟩
                  case measure => simp [intOf]; omega
                · clear HQ
                  obtain ⟨HS', q1, q2, q3, q4⟩ := HTAIL.out w3 o' HT.out.1 HT.out.2
                  have k0 := HS'.out.is.c0
                  have k1 := HS'.out.is.c1
                  have k2 := HS'.out.is.c2
                  have HW : Hid (Calls Try.prog 14 #[.pointer (some ⟨B, 0, none⟩)] w3 fun e w' => e = .returned (.int .i64 (o'.water : Int)) ∧ w' = w3) := water_any HS'.out.is HS'.out.ok
                  have HREL : Hid (∃ (jj : Nat) (oo : Or), jj ≤ len ∧ j + 1 = jj ∧ oo.pub = o'.pub ∧ oo.water = o'.water ∧ Hid (Ri w w3 B M oo)) := ⟨j + 1, o', by omega, rfl, rfl, rfl, HS'⟩
                  clear HT HTAIL u1 u2
                  go_wp2_with fail
                  refine (published_any k1 k2).mono ?_
                  rintro r wa ⟨rfl, rfl⟩
                  go_wp2_with fail
                  refine Calls.mono HW.out ?_
                  rintro r wa ⟨rfl, rfl⟩
                  go_wp2_with fail
                  refine Calls.mono HW.out ?_
                  rintro r wa ⟨rfl, rfl⟩
                  go_wp2_with fail
                  refine (published_any k1 k2).mono ?_
                  rintro r wa ⟨rfl, rfl⟩
                  go_wp2_with fail
                  refine (published_any k1 k2).mono ?_
                  rintro r wa ⟨rfl, rfl⟩
                  go_wp2_with fail
                  refine (last_any k0 k2).mono ?_
                  rintro r wa ⟨rfl, rfl⟩
                  go_wp2_with fail
                  refine (published_any k1 k2).mono ?_
                  rintro r wa ⟨rfl, rfl⟩
                  go_wp2_with fail
                  refine Calls.mono HW.out ?_
                  rintro r wa ⟨rfl, rfl⟩
                  go_wp2
                  go_roundw
                  case rel =>
                    exact ⟨j + 1, o', by omega, by go_num, rfl, rfl, HS'⟩
                  case measure => simp [intOf]; omega
            · skip
              by_cases h3 : g.dd = 3
              · as_aux_lemma =>
                  have HD : Hid (g.dd = 3) := h3
                  rw [h3] at hwo d0 e0
                  clear h3
                  go_wp2_with fail
                  refine (close_all HO.out.1 HO.out.2.1 g.s).mono ?_
                  rintro r w3 ⟨rfl, hT⟩
                  obtain ⟨o', ho'⟩ : ∃ o', (o.closeR g.s).2 = o' := ⟨_, rfl⟩
                  have HT : Hid (Ort wo w3 B M o' ∧ o.Le o') := by rw [← ho']; exact ⟨hT, Or.closeR_le HO.out.2.1 _⟩
                  clear hT ho'
                  obtain ⟨HS', q1, q2, q3, q4⟩ := HTAIL.out w3 o' HT.out.1 HT.out.2
                  have k0 := HS'.out.is.c0
                  have k1 := HS'.out.is.c1
                  have k2 := HS'.out.is.c2
                  have HW : Hid (Calls Try.prog 14 #[.pointer (some ⟨B, 0, none⟩)] w3 fun e w' => e = .returned (.int .i64 (o'.water : Int)) ∧ w' = w3) := water_any HS'.out.is HS'.out.ok
                  have HREL : Hid (∃ (jj : Nat) (oo : Or), jj ≤ len ∧ j + 1 = jj ∧ oo.pub = o'.pub ∧ oo.water = o'.water ∧ Hid (Ri w w3 B M oo)) := ⟨j + 1, o', by omega, rfl, rfl, rfl, HS'⟩
                  clear HT HTAIL
                  go_wp2_with fail
                  refine (published_any k1 k2).mono ?_
                  rintro r wa ⟨rfl, rfl⟩
                  go_wp2_with fail
                  refine Calls.mono HW.out ?_
                  rintro r wa ⟨rfl, rfl⟩
                  go_wp2_with fail
                  refine Calls.mono HW.out ?_
                  rintro r wa ⟨rfl, rfl⟩
                  go_wp2_with fail
                  refine (published_any k1 k2).mono ?_
                  rintro r wa ⟨rfl, rfl⟩
                  go_wp2_with fail
                  refine (published_any k1 k2).mono ?_
                  rintro r wa ⟨rfl, rfl⟩
                  go_wp2_with fail
                  refine (last_any k0 k2).mono ?_
                  rintro r wa ⟨rfl, rfl⟩
                  go_wp2_with fail
                  refine (published_any k1 k2).mono ?_
                  rintro r wa ⟨rfl, rfl⟩
                  go_wp2_with fail
                  refine Calls.mono HW.out ?_
                  rintro r wa ⟨rfl, rfl⟩
                  go_wp2
                  go_roundw
                  case rel =>
                    exact ⟨j + 1, o', by omega, by go_num, rfl, rfl, HS'⟩
                  case measure => simp [intOf]; omega
              · skip
                as_aux_lemma =>
                  obtain ⟨o', ho'⟩ : ∃ o', o = o' := ⟨_, rfl⟩
                  obtain ⟨w3, hw3⟩ : ∃ w3, wo = w3 := ⟨_, rfl⟩
                  have HT : Hid (Ort wo w3 B M o' ∧ o.Le o') := by rw [← ho', ← hw3]; exact ⟨Ort.refl HO.out.1, Or.Le.refl HO.out.2.1⟩
                  rw [hw3] at hwo d0 d1 d2 d3
                  clear ho'
                  obtain ⟨HS', q1, q2, q3, q4⟩ := HTAIL.out w3 o' HT.out.1 HT.out.2
                  have k0 := HS'.out.is.c0
                  have k1 := HS'.out.is.c1
                  have k2 := HS'.out.is.c2
                  have HW : Hid (Calls Try.prog 14 #[.pointer (some ⟨B, 0, none⟩)] w3 fun e w' => e = .returned (.int .i64 (o'.water : Int)) ∧ w' = w3) := water_any HS'.out.is HS'.out.ok
                  have HREL : Hid (∃ (jj : Nat) (oo : Or), jj ≤ len ∧ j + 1 = jj ∧ oo.pub = o'.pub ∧ oo.water = o'.water ∧ Hid (Ri w w3 B M oo)) := ⟨j + 1, o', by omega, rfl, rfl, rfl, HS'⟩
                  clear HT HTAIL
                  go_wp2_with fail
                  refine (published_any k1 k2).mono ?_
                  rintro r wa ⟨rfl, rfl⟩
                  go_wp2_with fail
                  refine Calls.mono HW.out ?_
                  rintro r wa ⟨rfl, rfl⟩
                  go_wp2_with fail
                  refine Calls.mono HW.out ?_
                  rintro r wa ⟨rfl, rfl⟩
                  go_wp2_with fail
                  refine (published_any k1 k2).mono ?_
                  rintro r wa ⟨rfl, rfl⟩
                  go_wp2_with fail
                  refine (published_any k1 k2).mono ?_
                  rintro r wa ⟨rfl, rfl⟩
                  go_wp2_with fail
                  refine (last_any k0 k2).mono ?_
                  rintro r wa ⟨rfl, rfl⟩
                  go_wp2_with fail
                  refine (published_any k1 k2).mono ?_
                  rintro r wa ⟨rfl, rfl⟩
                  go_wp2_with fail
                  refine Calls.mono HW.out ?_
                  rintro r wa ⟨rfl, rfl⟩
                  go_wp2
                  go_roundw
                  case rel =>
                    exact ⟨j + 1, o', by omega, by go_num, rfl, rfl, HS'⟩
                  case measure => simp [intOf]; omega
      · have hli : ¬ (j : Int) < (len : Int) := by omega
        have HE : Hid (Below w.heap.size w wr) := HS.out.below
        go_wp2
        go_ret
        exact ⟨rfl, HE.out⟩

set_option maxRecDepth 100000 in
set_option maxHeartbeats 2000000 in
theorem lifted_oracleRises (os : Os) (started : os.Started) (H : Type) (enc : TypeId × Value → H) :
    ReturnsInHanded {} Try.checked os 4 .any (Rows.oracleRisesSpec.pre6 enc Try.prog Try.f4 Rows.oracleRisesRow.domain false) (Rows.oracleRisesSpec.post enc Try.prog Try.f4 false true false false) := by
  refine returnsInHanded_of_change_sized (C := Try.checked) own started (by kernel_rfl) Try.func4
    (ChangeSpec.witness6 (enc := enc) (C := Try.checked) false ⟨#[], #[.int .i64 0, .slice none 0 0], []⟩ 8 (by kernel_rfl) (by kernel_rfl) (by kernel_rfl) (by kernel_rfl)) ?_
  intro W base args ds gs before hval0 hW _ hsz0 _
  have hsz : (DataW.weightsEach Try.prog (Try.f4.params.toList ++ Rows.oracleRisesSpec.plain.varTypes Try.prog) (ds ++ gs)).all (· ≤ reachBytes) = true := hsz0
  clear hsz0
  have hval : ∀ (j : Nat) t v, Try.f4.params[j]? = some t → args[j]? = some v → Value.okWide Try.prog W .any base t v := hval0
  have hW' := hW
  obtain ⟨p, q, hA0, hV, rfl, hfz, hnd⟩ := hW
  have hA : DataW.TrodAll enc Try.prog W 0 (fun _ => true) true Try.f4.params.toList args.toList ds p := hA0
  rw [Try.params4] at hA hval hsz
  obtain ⟨v0, vs0, d0, ds0, p0, q0, hargs, rfl, rfl, h0, r0⟩ := trodAll_cons hA
  obtain ⟨v1, vs1, d1, ds1, p1, q1, rfl, rfl, rfl, h1, r1⟩ := trodAll_cons r0
  obtain ⟨rfl, rfl, rfl⟩ := trodAll_nil r1
  obtain rfl : args = #[v0, v1] := by cases args; simp_all
  obtain ⟨rfl, rfl⟩ := trodVars_none hV
  obtain ⟨a0, rfl, rfl, rfl, w0⟩ := open_int Try.underlying2 (hval 0 2 v0 rfl rfl) h0
  obtain ⟨a1, len1, cap1, rfl⟩ := okWide_slice Try.underlying22 (hval 1 22 v1 rfl rfl)
  have k1 := h1
  have lt1 : ∀ x ∈ p1, x.block < W.heap.size := by obtain ⟨m, hm⟩ := k1; exact DataW.trod_lt m _ _ _ hm
  obtain ⟨z1, w1⟩ : ∃ l, InOo W a1 len1 cap1 l := by
    refine in_oops h1 fun n hn => ?_
    have := of_decide_eq_true (List.all_eq_true.1 hsz _ (DataW.weights_mem_each (j := 1) (t := 22) rfl rfl n hn))
    simp only [reachBytes] at this
    omega
  clear hA0 hval0
  refine (walk_oracleRises a0 a1 len1 cap1 z1 W w0 w1).mono fun e W' ⟨he, bel⟩ => ?_
  subst he
  exact ⟨_, rfl, _, _, _, [], _, [], hW', trodAll_mk1 (shut_bool Try.underlying4 _), (trodAll_cons_mk (shut_int Try.underlying2 w0) (trodAll_cons_mk (Below.trod laidOut (by kernel_rfl) (of_decide_eq_true (by kernel_rfl)) k1 bel lt1) trodAll_mk0)), rfl, bel.frame _, fun h => by cases h⟩

/-- The statement. -/
theorem oracleRises_holds : Rows.OracleRisesSaid :=
  OpenClaim.holds_of_wide 4 Try.f4 rfl rfl rfl rfl rfl rfl rfl ⟨rfl, rfl, rfl, rfl, rfl⟩ rfl rfl rfl rfl rfl (by kernel_rfl) Try.func4 (by kernel_rfl)
    (of_decide_eq_true (by kernel_rfl)) (by unfold Func.isWrapper; first | (rw [if_pos (by decide +kernel)]; kernel_rfl) | (rw [if_neg (by decide +kernel)]; exact ⟨rfl, rfl⟩))
    (fun os started H enc _ => lifted_oracleRises os started H enc)
#print axioms oracleRises_holds
end Go.Proofs.Ytdgphlghmjnjfaa
