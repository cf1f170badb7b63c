/- Tables: a head is swapped, a page retired. -/
import Derived.Test.YtnjafmjkaajbkaaDoorTbA
namespace Go.Proofs.YtnjafmjkaajbkaaDoor
open Go.RowKit
set_option linter.unusedVariables false
set_option maxRecDepth 100000

section
variable {w : World} {B : Nat} {uv wv : Value} {size : Int} {us : List Pa} {ws : List Nat} {many gone missed : Int}

/-- What Swap lays first: its two handles' boxes. -/
theorem Rw.boxes (h : Rw w B uv wv size us ws many gone missed) (a b : Int × Int) :
    ∃ w0, (w.alloc (.cells #[.int .i64 a.1, .int .i64 a.2] 32)).alloc (.cells #[.int .i64 b.1, .int .i64 b.2] 32) = w0 ∧ Rw w0 B uv wv size us ws many gone missed ∧ Below w.heap.size w w0 ∧ w0.heap.size = w.heap.size + 2 ∧ Bk w0 w.heap.size 32 #[.int .i64 a.1, .int .i64 a.2] ∧ Bk w0 (w.heap.size + 1) 32 #[.int .i64 b.1, .int .i64 b.2] := by
  have k := Bk.new (w.alloc (.cells #[.int .i64 a.1, .int .i64 a.2] 32)) 32 #[.int .i64 b.1, .int .i64 b.2]
  simp only [World.size_alloc] at k
  have hb : Below w.heap.size w ((w.alloc (.cells #[.int .i64 a.1, .int .i64 a.2] 32)).alloc (.cells #[.int .i64 b.1, .int .i64 b.2] 32)) := ((Below.refl _ w).alloc (Nat.le_refl _) _).alloc (by simp) _
  exact ⟨_, rfl, h.below hb, hb, by simp, (Bk.new w _ _).alloc _, k⟩

theorem swap_none (h : Rw w B uv wv size us ws many gone missed) (hs : 0 < size) (p : Int) (hp : (pgAt us p).st ≠ 1) (a b : Int × Int) : Calls Tryd.prog 15 #[.pointer (some ⟨B, 0, none⟩), .int .i64 p, hv a, hv b] w fun e w' => e = .returned (.tuple #[.bool false, .int .i64 4]) ∧ Below w.heap.size w w' := by
  obtain ⟨w0, hw0, h0, hb0, -, -, -⟩ := h.boxes a b
  have H : Hid _ := h0
  have HB : Hid _ := hb0
  clear h h0 hb0
  go_enter Tryd.func15, Tryd.ntmps15
  go_wp2_with fail
  refine (check_none H.out hs p 1 hp).mono ?_
  rintro e w1 ⟨rfl, rfl⟩
  go_wp2
  go_ret2
  exact ⟨rfl, HB.out⟩

theorem swap_arg (h : Rw w B uv wv size us ws many gone missed) (hs : 0 < size) (p : Int) (hp : (pgAt us p).st = 1) (a : Int × Int) : Calls Tryd.prog 15 #[.pointer (some ⟨B, 0, none⟩), .int .i64 p, hv a, hv (0, 0)] w fun e w' => e = .returned (.tuple #[.bool false, .int .i64 1]) ∧ Below w.heap.size w w' := by
  obtain ⟨w0, hw0, h0, hb0, -, -, hk⟩ := h.boxes a (0, 0)
  have H : Hid _ := h0
  have HB : Hid _ := hb0
  have k0 : w0.cell? ⟨w.heap.size + 1, 0, none⟩ = some (.int .i64 0) := hk.cell 0
  have k1 : w0.cell? ⟨w.heap.size + 1, 1, none⟩ = some (.int .i64 0) := hk.cell 1
  clear h h0 hb0 hk
  go_enter Tryd.func15, Tryd.ntmps15
  go_wp2_with fail
  refine (check_ok H.out hs p 1 hp).mono ?_
  rintro e w1 ⟨rfl, rfl⟩
  go_wp2
  go_ret2
  exact ⟨rfl, HB.out⟩

/-- The parts of its block that are numbers are written. -/
theorem Rw.setB (h : Rw w B uv wv size us ws many gone missed) {w' : World} {many' gone' missed' : Int} (ht : Tn [B] w w') (hk : Bk w' B 64 #[.int .i64 size, uv, wv, .int .i64 many', .int .i64 gone', .int .i64 missed']) : Rw w' B uv wv size us ws many' gone' missed' :=
  { blk := hk
    row := owns_tn h.row ht (fun k hk hm => (h.neU k hk).1 (by simpa using hm))
    wrd := owns_tn h.wrd ht (fun k hk hm => (h.neW k hk).1 (by simpa using hm))
    cel := fun i c x n hi => (h.cel i c x n hi).tn ht (by simpa using (h.neC hi).1)
    dis := h.dis }
theorem Rw.setMissed (h : Rw w B uv wv size us ws many gone missed) (x : Int) : Rw (w.setCell ⟨B, 5, none⟩ (.int .i64 x)) B uv wv size us ws many gone x := h.setB ((Tn.refl [B] w).setCell (.inl (by simp)) _) (h.blk.set 5 _)
theorem Rw.setGone (h : Rw w B uv wv size us ws many gone missed) (x : Int) : Rw (w.setCell ⟨B, 4, none⟩ (.int .i64 x)) B uv wv size us ws many x missed := h.setB ((Tn.refl [B] w).setCell (.inl (by simp)) _) (h.blk.set 4 _)
theorem Rw.setMany (h : Rw w B uv wv size us ws many gone missed) (x : Int) : Rw (w.setCell ⟨B, 3, none⟩ (.int .i64 x)) B uv wv size us ws x gone missed := h.setB ((Tn.refl [B] w).setCell (.inl (by simp)) _) (h.blk.set 3 _)

theorem nonzero {b : Int × Int} (h : b ≠ (0, 0)) : ¬ b.1 = 0 ∨ (b.1 = 0 ∧ ¬ b.2 = 0) := by
  obtain ⟨x, y⟩ := b
  by_cases hx : x = 0
  · right
    subst hx
    exact ⟨rfl, fun hy => h (by simp at hy; simp [hy])⟩
  · exact .inl hx

set_option maxHeartbeats 4000000 in
theorem swap_hit (h : Rw w B uv wv size us ws many gone missed) (hs : 0 < size) {i c : Nat} {x : Int × Int} {n : Int} (hi : us[i]? = some (Pa.live c x n)) (a : Int × Int) (b : Int × Int) (hb : b ≠ (0, 0)) (hxa : x = a) : Calls Tryd.prog 15 #[.pointer (some ⟨B, 0, none⟩), .int .i64 (i : Int), hv a, hv b] w fun e w' => e = .returned (.tuple #[.bool true, .int .i64 0]) ∧ Rw w' B uv wv size (us.set i (.live c b (wrap64 (n + 1)))) ws many gone missed ∧ Tn [c] w w' := by
  have hz := nonzero hb
  obtain ⟨b1, b2⟩ := b
  have hz' : ¬ b1 = 0 ∨ (b1 = 0 ∧ ¬ b2 = 0) := hz
  clear hb hz
  rcases hz' with z1 | ⟨rfl, z2⟩
  · obtain ⟨w0, hw0, h0, hb0, hs0, hka, hkb⟩ := h.boxes a (b1, b2)
    dsimp only at hw0 hkb
    have HH : Hid _ := h0
    have HI : Hid ((pgAt us (i : Int)).st = 1) := by show _ = _; rw [pgAt_some hi]; rfl
    have HC : Hid (Ce w0 c x n) := h0.cel i c x n hi
    have HX : Hid _ := hxa
    have HE : Hid (∀ v w', w' = v → Ce v c (b1, b2) (wrap64 (n + 1)) → Tn [c] w0.drew v → Rw w' B uv wv size (us.set i (.live c (b1, b2) (wrap64 (n + 1)))) ws many gone missed ∧ Tn [c] w w') := by
      intro v w' e hc ht
      subst e
      have ht' : Tn [c] w0 w' := ⟨ht.os, ht.tape, ht.output, ht.size, ht.block⟩
      exact ⟨h0.setCell hi hc ht', (Tn.of_below hb0 [c]).trans ht' (by simp)⟩
    have hlt : i < us.length := (List.getElem?_eq_some_iff.1 hi).1
    have hcl : c < w.heap.size := (h.cel i c x n hi).lt
    have hne := h0.neC hi
    obtain ⟨c0, c1, -⟩ := h0.cells
    obtain ⟨g, cap, rfl, -, -, e1, -⟩ := h0.entry hi
    have hgl : g < w.heap.size := row_block h.row g rfl
    have hBl : B < w.heap.size := h.blk.lt
    have e1' : w0.cell? ⟨g, i * 2 + 1, none⟩ = some (.pointer (some ⟨c, 0, none⟩)) := e1
    have a0 : w0.cell? ⟨w.heap.size, 0, none⟩ = some (.int .i64 a.1) := hka.cell 0
    have a1 : w0.cell? ⟨w.heap.size, 1, none⟩ = some (.int .i64 a.2) := hka.cell 1
    have b0 : w0.cell? ⟨w.heap.size + 1, 0, none⟩ = some (.int .i64 b1) := hkb.cell 0
    have b1' : w0.cell? ⟨w.heap.size + 1, 1, none⟩ = some (.int .i64 b2) := hkb.cell 1
    have HK : Hid (∀ v, Tn [c] w0.drew v → v.cell? ⟨B, 1, none⟩ = w0.cell? ⟨B, 1, none⟩ ∧ v.cell? ⟨g, i * 2 + 1, none⟩ = w0.cell? ⟨g, i * 2 + 1, none⟩ ∧ v.cell? ⟨w.heap.size, 0, none⟩ = w0.cell? ⟨w.heap.size, 0, none⟩ ∧ v.cell? ⟨w.heap.size, 1, none⟩ = w0.cell? ⟨w.heap.size, 1, none⟩ ∧ v.cell? ⟨w.heap.size + 1, 0, none⟩ = w0.cell? ⟨w.heap.size + 1, 0, none⟩ ∧ v.cell? ⟨w.heap.size + 1, 1, none⟩ = w0.cell? ⟨w.heap.size + 1, 1, none⟩) := by
      intro v ht
      have ht' : Tn [c] w0 v := ⟨ht.os, ht.tape, ht.output, ht.size, ht.block⟩
      have key : ∀ (k o : Nat), k < w0.heap.size → k ≠ c → v.cell? ⟨k, o, none⟩ = w0.cell? ⟨k, o, none⟩ := fun k o hk hn => by
        simp only [World.cell?]
        rw [ht'.block k hk (by simpa using hn)]
      exact ⟨key B 1 (by omega) hne.1.symm, key g _ (by omega) (fun e => hne.2.1 (by rw [← e]; rfl)), key _ 0 (by omega) (by omega), key _ 1 (by omega) (by omega), key _ 0 (by omega) (by omega), key _ 1 (by omega) (by omega)⟩
    have h2 : (i : Int) < (us.length : Int) := by omega
    have h3 : (0 : Int) ≤ (i : Int) := by omega
    clear h h0 hb0 hka hkb e1 hi hne hgl hcl hlt hxa hBl
    generalize hul : us.length = ul at c1 h2 HH HE ⊢
    go_enter Tryd.func15, Tryd.ntmps15
    go_wp2_with fail
    refine (check_ok HH.out hs _ 1 HI.out).mono ?_
    rintro e w1 ⟨rfl, rfl⟩
    go_wp2_with fail
    go_region_held3 (fun w' => w'.cell? ⟨B, 1, none⟩ = some (.slice (some ⟨g, 0, none⟩) ul cap) ∧ w'.cell? ⟨g, i * 2 + 1, none⟩ = some (.pointer (some ⟨c, 0, none⟩)) ∧ w'.cell? ⟨w.heap.size, 0, none⟩ = some (.int .i64 a.1) ∧ w'.cell? ⟨w.heap.size, 1, none⟩ = some (.int .i64 a.2) ∧ w'.cell? ⟨w.heap.size + 1, 0, none⟩ = some (.int .i64 b1) ∧ w'.cell? ⟨w.heap.size + 1, 1, none⟩ = some (.int .i64 b2)) (go_keep) (first
      | (go_at_call 40; refine (cswap_hit (by exact HC.out) a (b1, b2) HX.out).mono ?_; rintro e w2 ⟨rfl, k2, t2⟩; have hq := HK.out w2 t2; have c1 := hq.1.trans c1; have e1' := hq.2.1.trans e1'; have a0 := hq.2.2.1.trans a0; have a1 := hq.2.2.2.1.trans a1; have b0 := hq.2.2.2.2.1.trans b0; have b1' := hq.2.2.2.2.2.trans b1'; have HF : Hid _ := HE.out w2 w2 rfl k2 t2; clear hq k2 t2))
    go_wp2
    go_ret2
    exact ⟨rfl, HF.out⟩
  · obtain ⟨w0, hw0, h0, hb0, hs0, hka, hkb⟩ := h.boxes a (0, b2)
    dsimp only at hw0 hkb
    have HH : Hid _ := h0
    have HI : Hid ((pgAt us (i : Int)).st = 1) := by show _ = _; rw [pgAt_some hi]; rfl
    have HC : Hid (Ce w0 c x n) := h0.cel i c x n hi
    have HX : Hid _ := hxa
    have HE : Hid (∀ v w', w' = v → Ce v c (0, b2) (wrap64 (n + 1)) → Tn [c] w0.drew v → Rw w' B uv wv size (us.set i (.live c (0, b2) (wrap64 (n + 1)))) ws many gone missed ∧ Tn [c] w w') := by
      intro v w' e hc ht
      subst e
      have ht' : Tn [c] w0 w' := ⟨ht.os, ht.tape, ht.output, ht.size, ht.block⟩
      exact ⟨h0.setCell hi hc ht', (Tn.of_below hb0 [c]).trans ht' (by simp)⟩
    have hlt : i < us.length := (List.getElem?_eq_some_iff.1 hi).1
    have hcl : c < w.heap.size := (h.cel i c x n hi).lt
    have hne := h0.neC hi
    obtain ⟨c0, c1, -⟩ := h0.cells
    obtain ⟨g, cap, rfl, -, -, e1, -⟩ := h0.entry hi
    have hgl : g < w.heap.size := row_block h.row g rfl
    have hBl : B < w.heap.size := h.blk.lt
    have e1' : w0.cell? ⟨g, i * 2 + 1, none⟩ = some (.pointer (some ⟨c, 0, none⟩)) := e1
    have a0 : w0.cell? ⟨w.heap.size, 0, none⟩ = some (.int .i64 a.1) := hka.cell 0
    have a1 : w0.cell? ⟨w.heap.size, 1, none⟩ = some (.int .i64 a.2) := hka.cell 1
    have b0 : w0.cell? ⟨w.heap.size + 1, 0, none⟩ = some (.int .i64 0) := hkb.cell 0
    have b1' : w0.cell? ⟨w.heap.size + 1, 1, none⟩ = some (.int .i64 b2) := hkb.cell 1
    have HK : Hid (∀ v, Tn [c] w0.drew v → v.cell? ⟨B, 1, none⟩ = w0.cell? ⟨B, 1, none⟩ ∧ v.cell? ⟨g, i * 2 + 1, none⟩ = w0.cell? ⟨g, i * 2 + 1, none⟩ ∧ v.cell? ⟨w.heap.size, 0, none⟩ = w0.cell? ⟨w.heap.size, 0, none⟩ ∧ v.cell? ⟨w.heap.size, 1, none⟩ = w0.cell? ⟨w.heap.size, 1, none⟩ ∧ v.cell? ⟨w.heap.size + 1, 0, none⟩ = w0.cell? ⟨w.heap.size + 1, 0, none⟩ ∧ v.cell? ⟨w.heap.size + 1, 1, none⟩ = w0.cell? ⟨w.heap.size + 1, 1, none⟩) := by
      intro v ht
      have ht' : Tn [c] w0 v := ⟨ht.os, ht.tape, ht.output, ht.size, ht.block⟩
      have key : ∀ (k o : Nat), k < w0.heap.size → k ≠ c → v.cell? ⟨k, o, none⟩ = w0.cell? ⟨k, o, none⟩ := fun k o hk hn => by
        simp only [World.cell?]
        rw [ht'.block k hk (by simpa using hn)]
      exact ⟨key B 1 (by omega) hne.1.symm, key g _ (by omega) (fun e => hne.2.1 (by rw [← e]; rfl)), key _ 0 (by omega) (by omega), key _ 1 (by omega) (by omega), key _ 0 (by omega) (by omega), key _ 1 (by omega) (by omega)⟩
    have h2 : (i : Int) < (us.length : Int) := by omega
    have h3 : (0 : Int) ≤ (i : Int) := by omega
    clear h h0 hb0 hka hkb e1 hi hne hgl hcl hlt hxa hBl
    generalize hul : us.length = ul at c1 h2 HH HE ⊢
    go_enter Tryd.func15, Tryd.ntmps15
    go_wp2_with fail
    refine (check_ok HH.out hs _ 1 HI.out).mono ?_
    rintro e w1 ⟨rfl, rfl⟩
    go_wp2_with fail
    go_region_held3 (fun w' => w'.cell? ⟨B, 1, none⟩ = some (.slice (some ⟨g, 0, none⟩) ul cap) ∧ w'.cell? ⟨g, i * 2 + 1, none⟩ = some (.pointer (some ⟨c, 0, none⟩)) ∧ w'.cell? ⟨w.heap.size, 0, none⟩ = some (.int .i64 a.1) ∧ w'.cell? ⟨w.heap.size, 1, none⟩ = some (.int .i64 a.2) ∧ w'.cell? ⟨w.heap.size + 1, 0, none⟩ = some (.int .i64 0) ∧ w'.cell? ⟨w.heap.size + 1, 1, none⟩ = some (.int .i64 b2)) (go_keep) (first
      | (go_at_call 40; refine (cswap_hit (by exact HC.out) a (0, b2) HX.out).mono ?_; rintro e w2 ⟨rfl, k2, t2⟩; have hq := HK.out w2 t2; have c1 := hq.1.trans c1; have e1' := hq.2.1.trans e1'; have a0 := hq.2.2.1.trans a0; have a1 := hq.2.2.2.1.trans a1; have b0 := hq.2.2.2.2.1.trans b0; have b1' := hq.2.2.2.2.2.trans b1'; have HF : Hid _ := HE.out w2 w2 rfl k2 t2; clear hq k2 t2))
    go_wp2
    go_ret2
    exact ⟨rfl, HF.out⟩

set_option maxHeartbeats 4000000 in
theorem swap_miss (h : Rw w B uv wv size us ws many gone missed) (hs : 0 < size) {i c : Nat} {x : Int × Int} {n : Int} (hi : us[i]? = some (Pa.live c x n)) (a : Int × Int) (b : Int × Int) (hb : b ≠ (0, 0)) (hxa : ¬ x = a) : Calls Tryd.prog 15 #[.pointer (some ⟨B, 0, none⟩), .int .i64 (i : Int), hv a, hv b] w fun e w' => e = .returned (.tuple #[.bool false, .int .i64 0]) ∧ Rw w' B uv wv size us ws many gone (wrap64 (missed + 1)) ∧ Tn [B] w w' := by
  have hz := nonzero hb
  obtain ⟨b1, b2⟩ := b
  have hz' : ¬ b1 = 0 ∨ (b1 = 0 ∧ ¬ b2 = 0) := hz
  clear hb hz
  rcases hz' with z1 | ⟨rfl, z2⟩
  · obtain ⟨w0, hw0, h0, hb0, hs0, hka, hkb⟩ := h.boxes a (b1, b2)
    dsimp only at hw0 hkb
    have HH : Hid _ := h0
    have HI : Hid ((pgAt us (i : Int)).st = 1) := by show _ = _; rw [pgAt_some hi]; rfl
    have HC : Hid (Ce w0 c x n) := h0.cel i c x n hi
    have HX : Hid _ := hxa
    have HE : Hid (∀ v, Below w0.drew.heap.size w0.drew v → v.cell? ⟨B, 5, none⟩ = some (.int .i64 missed) ∧ v.frozen? ⟨B, 5, none⟩ = false ∧ Rw (v.setCell ⟨B, 5, none⟩ (.int .i64 (wrap64 (missed + 1)))) B uv wv size us ws many gone (wrap64 (missed + 1)) ∧ Tn [B] w (v.setCell ⟨B, 5, none⟩ (.int .i64 (wrap64 (missed + 1))))) := by
      intro v hv0
      have hv : Below w0.heap.size w0 v := ⟨hv0.os, hv0.tape, hv0.output, hv0.size, hv0.block⟩
      have hr := h0.below hv
      exact ⟨hr.cells.2.2.2.2.2, hr.blk.frozen 5, hr.setMissed _, ((Tn.of_below hb0 [B]).trans (Tn.of_below hv [B]) (by simp)).setCell (.inl (by simp)) _⟩
    have hlt : i < us.length := (List.getElem?_eq_some_iff.1 hi).1
    have hcl : c < w.heap.size := (h.cel i c x n hi).lt
    have hne := h0.neC hi
    obtain ⟨c0, c1, -⟩ := h0.cells
    obtain ⟨g, cap, rfl, -, -, e1, -⟩ := h0.entry hi
    have hgl : g < w.heap.size := row_block h.row g rfl
    have hBl : B < w.heap.size := h.blk.lt
    have e1' : w0.cell? ⟨g, i * 2 + 1, none⟩ = some (.pointer (some ⟨c, 0, none⟩)) := e1
    have a0 : w0.cell? ⟨w.heap.size, 0, none⟩ = some (.int .i64 a.1) := hka.cell 0
    have a1 : w0.cell? ⟨w.heap.size, 1, none⟩ = some (.int .i64 a.2) := hka.cell 1
    have b0 : w0.cell? ⟨w.heap.size + 1, 0, none⟩ = some (.int .i64 b1) := hkb.cell 0
    have b1' : w0.cell? ⟨w.heap.size + 1, 1, none⟩ = some (.int .i64 b2) := hkb.cell 1
    have HK : Hid (∀ v, Tn [c] w0.drew v → v.cell? ⟨B, 1, none⟩ = w0.cell? ⟨B, 1, none⟩ ∧ v.cell? ⟨g, i * 2 + 1, none⟩ = w0.cell? ⟨g, i * 2 + 1, none⟩ ∧ v.cell? ⟨w.heap.size, 0, none⟩ = w0.cell? ⟨w.heap.size, 0, none⟩ ∧ v.cell? ⟨w.heap.size, 1, none⟩ = w0.cell? ⟨w.heap.size, 1, none⟩ ∧ v.cell? ⟨w.heap.size + 1, 0, none⟩ = w0.cell? ⟨w.heap.size + 1, 0, none⟩ ∧ v.cell? ⟨w.heap.size + 1, 1, none⟩ = w0.cell? ⟨w.heap.size + 1, 1, none⟩) := by
      intro v ht
      have ht' : Tn [c] w0 v := ⟨ht.os, ht.tape, ht.output, ht.size, ht.block⟩
      have key : ∀ (k o : Nat), k < w0.heap.size → k ≠ c → v.cell? ⟨k, o, none⟩ = w0.cell? ⟨k, o, none⟩ := fun k o hk hn => by
        simp only [World.cell?]
        rw [ht'.block k hk (by simpa using hn)]
      exact ⟨key B 1 (by omega) hne.1.symm, key g _ (by omega) (fun e => hne.2.1 (by rw [← e]; rfl)), key _ 0 (by omega) (by omega), key _ 1 (by omega) (by omega), key _ 0 (by omega) (by omega), key _ 1 (by omega) (by omega)⟩
    have h2 : (i : Int) < (us.length : Int) := by omega
    have h3 : (0 : Int) ≤ (i : Int) := by omega
    clear h h0 hb0 hka hkb e1 hi hne hgl hcl hlt hxa hBl
    generalize hul : us.length = ul at c1 h2 HH HE ⊢
    go_enter Tryd.func15, Tryd.ntmps15
    go_wp2_with fail
    refine (check_ok HH.out hs _ 1 HI.out).mono ?_
    rintro e w1 ⟨rfl, rfl⟩
    go_wp2_with fail
    go_region_held3 (fun w' => w'.cell? ⟨B, 1, none⟩ = some (.slice (some ⟨g, 0, none⟩) ul cap) ∧ w'.cell? ⟨g, i * 2 + 1, none⟩ = some (.pointer (some ⟨c, 0, none⟩)) ∧ w'.cell? ⟨w.heap.size, 0, none⟩ = some (.int .i64 a.1) ∧ w'.cell? ⟨w.heap.size, 1, none⟩ = some (.int .i64 a.2) ∧ w'.cell? ⟨w.heap.size + 1, 0, none⟩ = some (.int .i64 b1) ∧ w'.cell? ⟨w.heap.size + 1, 1, none⟩ = some (.int .i64 b2)) (go_keep) (first
      | (go_at_call 40; refine (cswap_miss (by exact HC.out) a (b1, b2) HX.out).mono ?_; rintro e w2 ⟨rfl, b2'⟩; have t2 := Tn.of_below b2' [c]; have hq := HK.out w2 t2; have c1 := hq.1.trans c1; have e1' := hq.2.1.trans e1'; have a0 := hq.2.2.1.trans a0; have a1 := hq.2.2.2.1.trans a1; have b0 := hq.2.2.2.2.1.trans b0; have b1' := hq.2.2.2.2.2.trans b1'; clear hq t2))
    have hf := HE.out w2 b2'
    have c5 := hf.1
    have f5 := hf.2.1
    have HF : Hid _ := hf.2.2
    clear hf b2'
    go_wp2_with fail
    refine (aadd_any c5 f5).mono ?_
    rintro e w3 ⟨rfl, rfl⟩
    go_wp2
    go_ret2
    exact ⟨rfl, HF.out⟩
  · obtain ⟨w0, hw0, h0, hb0, hs0, hka, hkb⟩ := h.boxes a (0, b2)
    dsimp only at hw0 hkb
    have HH : Hid _ := h0
    have HI : Hid ((pgAt us (i : Int)).st = 1) := by show _ = _; rw [pgAt_some hi]; rfl
    have HC : Hid (Ce w0 c x n) := h0.cel i c x n hi
    have HX : Hid _ := hxa
    have HE : Hid (∀ v, Below w0.drew.heap.size w0.drew v → v.cell? ⟨B, 5, none⟩ = some (.int .i64 missed) ∧ v.frozen? ⟨B, 5, none⟩ = false ∧ Rw (v.setCell ⟨B, 5, none⟩ (.int .i64 (wrap64 (missed + 1)))) B uv wv size us ws many gone (wrap64 (missed + 1)) ∧ Tn [B] w (v.setCell ⟨B, 5, none⟩ (.int .i64 (wrap64 (missed + 1))))) := by
      intro v hv0
      have hv : Below w0.heap.size w0 v := ⟨hv0.os, hv0.tape, hv0.output, hv0.size, hv0.block⟩
      have hr := h0.below hv
      exact ⟨hr.cells.2.2.2.2.2, hr.blk.frozen 5, hr.setMissed _, ((Tn.of_below hb0 [B]).trans (Tn.of_below hv [B]) (by simp)).setCell (.inl (by simp)) _⟩
    have hlt : i < us.length := (List.getElem?_eq_some_iff.1 hi).1
    have hcl : c < w.heap.size := (h.cel i c x n hi).lt
    have hne := h0.neC hi
    obtain ⟨c0, c1, -⟩ := h0.cells
    obtain ⟨g, cap, rfl, -, -, e1, -⟩ := h0.entry hi
    have hgl : g < w.heap.size := row_block h.row g rfl
    have hBl : B < w.heap.size := h.blk.lt
    have e1' : w0.cell? ⟨g, i * 2 + 1, none⟩ = some (.pointer (some ⟨c, 0, none⟩)) := e1
    have a0 : w0.cell? ⟨w.heap.size, 0, none⟩ = some (.int .i64 a.1) := hka.cell 0
    have a1 : w0.cell? ⟨w.heap.size, 1, none⟩ = some (.int .i64 a.2) := hka.cell 1
    have b0 : w0.cell? ⟨w.heap.size + 1, 0, none⟩ = some (.int .i64 0) := hkb.cell 0
    have b1' : w0.cell? ⟨w.heap.size + 1, 1, none⟩ = some (.int .i64 b2) := hkb.cell 1
    have HK : Hid (∀ v, Tn [c] w0.drew v → v.cell? ⟨B, 1, none⟩ = w0.cell? ⟨B, 1, none⟩ ∧ v.cell? ⟨g, i * 2 + 1, none⟩ = w0.cell? ⟨g, i * 2 + 1, none⟩ ∧ v.cell? ⟨w.heap.size, 0, none⟩ = w0.cell? ⟨w.heap.size, 0, none⟩ ∧ v.cell? ⟨w.heap.size, 1, none⟩ = w0.cell? ⟨w.heap.size, 1, none⟩ ∧ v.cell? ⟨w.heap.size + 1, 0, none⟩ = w0.cell? ⟨w.heap.size + 1, 0, none⟩ ∧ v.cell? ⟨w.heap.size + 1, 1, none⟩ = w0.cell? ⟨w.heap.size + 1, 1, none⟩) := by
      intro v ht
      have ht' : Tn [c] w0 v := ⟨ht.os, ht.tape, ht.output, ht.size, ht.block⟩
      have key : ∀ (k o : Nat), k < w0.heap.size → k ≠ c → v.cell? ⟨k, o, none⟩ = w0.cell? ⟨k, o, none⟩ := fun k o hk hn => by
        simp only [World.cell?]
        rw [ht'.block k hk (by simpa using hn)]
      exact ⟨key B 1 (by omega) hne.1.symm, key g _ (by omega) (fun e => hne.2.1 (by rw [← e]; rfl)), key _ 0 (by omega) (by omega), key _ 1 (by omega) (by omega), key _ 0 (by omega) (by omega), key _ 1 (by omega) (by omega)⟩
    have h2 : (i : Int) < (us.length : Int) := by omega
    have h3 : (0 : Int) ≤ (i : Int) := by omega
    clear h h0 hb0 hka hkb e1 hi hne hgl hcl hlt hxa hBl
    generalize hul : us.length = ul at c1 h2 HH HE ⊢
    go_enter Tryd.func15, Tryd.ntmps15
    go_wp2_with fail
    refine (check_ok HH.out hs _ 1 HI.out).mono ?_
    rintro e w1 ⟨rfl, rfl⟩
    go_wp2_with fail
    go_region_held3 (fun w' => w'.cell? ⟨B, 1, none⟩ = some (.slice (some ⟨g, 0, none⟩) ul cap) ∧ w'.cell? ⟨g, i * 2 + 1, none⟩ = some (.pointer (some ⟨c, 0, none⟩)) ∧ w'.cell? ⟨w.heap.size, 0, none⟩ = some (.int .i64 a.1) ∧ w'.cell? ⟨w.heap.size, 1, none⟩ = some (.int .i64 a.2) ∧ w'.cell? ⟨w.heap.size + 1, 0, none⟩ = some (.int .i64 0) ∧ w'.cell? ⟨w.heap.size + 1, 1, none⟩ = some (.int .i64 b2)) (go_keep) (first
      | (go_at_call 40; refine (cswap_miss (by exact HC.out) a (0, b2) HX.out).mono ?_; rintro e w2 ⟨rfl, b2'⟩; have t2 := Tn.of_below b2' [c]; have hq := HK.out w2 t2; have c1 := hq.1.trans c1; have e1' := hq.2.1.trans e1'; have a0 := hq.2.2.1.trans a0; have a1 := hq.2.2.2.1.trans a1; have b0 := hq.2.2.2.2.1.trans b0; have b1' := hq.2.2.2.2.2.trans b1'; clear hq t2))
    have hf := HE.out w2 b2'
    have c5 := hf.1
    have f5 := hf.2.1
    have HF : Hid _ := hf.2.2
    clear hf b2'
    go_wp2_with fail
    refine (aadd_any c5 f5).mono ?_
    rintro e w3 ⟨rfl, rfl⟩
    go_wp2
    go_ret2
    exact ⟨rfl, HF.out⟩

theorem retire_none (h : Rw w B uv wv size us ws many gone missed) (hs : 0 < size) (p : Int) (hp : (pgAt us p).st ≠ 1) : Calls Tryd.prog 16 #[.pointer (some ⟨B, 0, none⟩), .int .i64 p] w fun e w' => e = .returned (.int .i64 4) ∧ w' = w := by
  have H : Hid _ := h
  clear h
  go_enter Tryd.func16, Tryd.ntmps16
  go_wp2_with fail
  refine (check_none H.out hs p 1 hp).mono ?_
  rintro e w1 ⟨rfl, rfl⟩
  go_wp2
  go_ret
  exact ⟨rfl, rfl⟩

theorem release_none (h : Rw w B uv wv size us ws many gone missed) (hs : 0 < size) (p : Int) (hp : (pgAt us p).st ≠ 2) : Calls Tryd.prog 17 #[.pointer (some ⟨B, 0, none⟩), .int .i64 p] w fun e w' => e = .returned (.int .i64 4) ∧ w' = w := by
  have H : Hid _ := h
  clear h
  go_enter Tryd.func17, Tryd.ntmps17
  go_wp2_with fail
  refine (check_none H.out hs p 2 hp).mono ?_
  rintro e w1 ⟨rfl, rfl⟩
  go_wp2
  go_ret
  exact ⟨rfl, rfl⟩

set_option maxHeartbeats 1000000 in
theorem retire_live (h : Rw w B uv wv size us ws many gone missed) (hs : 0 < size) (hg0 : 0 ≤ gone) (hg1 : gone ≤ 65536) {i c : Nat} {x : Int × Int} {n : Int} (hi : us[i]? = some (Pa.live c x n)) :
    ∃ g, uv.ownBlock = some g ∧ Calls Tryd.prog 16 #[.pointer (some ⟨B, 0, none⟩), .int .i64 (i : Int)] w fun e w' => e = .returned (.int .i64 0) ∧ Rw w' B uv wv size (us.set i .gone) ws many (gone + 1) missed ∧ Tn [g, B] w w' := by
  have HH : Hid _ := h
  have HI : Hid ((pgAt us (i : Int)).st = 1) := by show _ = _; rw [pgAt_some hi]; rfl
  have hlt : i < us.length := (List.getElem?_eq_some_iff.1 hi).1
  obtain ⟨c0, c1, -⟩ := h.cells
  obtain ⟨g, cap, rfl, -, e0, e1, fg⟩ := h.entry hi
  refine ⟨g, rfl, ?_⟩
  generalize hul : us.length = ul at *
  have f0 := fg (i * 2)
  have f1 := fg (i * 2 + 1)
  obtain ⟨h1, t1⟩ := h.setEntry hul hlt .gone (fun k x m hk => by cases hk)
  obtain ⟨w1, hw1⟩ : ∃ w1, (w.setCell ⟨g, i * 2, none⟩ (.int .i64 2)).setCell ⟨g, i * 2 + 1, none⟩ (.pointer none) = w1 := ⟨_, rfl⟩
  have h1' : Rw w1 B (.slice (some ⟨g, 0, none⟩) ul cap) wv size (us.set i .gone) ws many gone missed := by rw [← hw1]; exact h1
  have t1' : Tn [g] w w1 := by rw [← hw1]; exact t1
  obtain ⟨-, k1, -, -, k4, -⟩ := h1'.cells
  have f4 := h1'.blk.frozen 4
  have e0' : w.cell? ⟨g, i * 2, none⟩ = some (.int .i64 1) := e0
  have e1' : w.cell? ⟨g, i * 2 + 1, none⟩ = some (.pointer (some ⟨c, 0, none⟩)) := e1
  have HF : Hid (Rw (w1.setCell ⟨B, 4, none⟩ (.int .i64 (gone + 1))) B (.slice (some ⟨g, 0, none⟩) ul cap) wv size (us.set i .gone) ws many (gone + 1) missed ∧ Tn [g, B] w (w1.setCell ⟨B, 4, none⟩ (.int .i64 (gone + 1)))) := ⟨h1'.setGone _, (t1'.mono (by simp)).setCell (.inl (by simp)) _⟩
  have h2 : (i : Int) < (ul : Int) := by omega
  have h3 : (0 : Int) ≤ (i : Int) := by omega
  clear h h1 t1 h1' t1' e0 e1 fg hi hul hlt
  go_enter Tryd.func16, Tryd.ntmps16
  go_wp2_with fail
  refine (check_ok HH.out hs _ 1 HI.out).mono ?_
  rintro e w9 ⟨rfl, rfl⟩
  go_wp2
  go_ret
  exact ⟨rfl, HF.out⟩
end
end Go.Proofs.YtnjafmjkaajbkaaDoor
