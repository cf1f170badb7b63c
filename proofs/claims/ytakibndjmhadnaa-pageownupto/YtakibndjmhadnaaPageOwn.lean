/- PageOwn: what is done with pages that were answered does not reach what came in. -/
import Derived.Test.YtakibndjmhadnaaPgOw
import Derived.Test.YtakibndjmhadnaaPgRx
import Derived.Test.YtakibndjmhadnaaPgLive
import Derived.Test.YtakibndjmhadnaaPgBulk
namespace Go.Proofs.Ytakibndjmhadnaa
open Go.ChangeShapes Go.WideShapes Go.ChangeAt Go.RowKit Go.Sort
open Go.ChangeMaps (open_string shut_string)
set_option linter.unusedVariables false
set_option maxRecDepth 100000

set_option maxHeartbeats 16000000 in
theorem walk_pageOwn (pf : Bool) (plo phi : ByteArray) (pr : Int) (pp : Option Addr) (pn pc : Nat) (pl : List En) (qf : Bool) (qlo qhi : ByteArray) (qr : Int) (qp : Option Addr) (qn qc : Nat) (ql : List En) (e : En) (w : World) (hp : InE 1048576 w pp pn pc pl) (hq : InE 1048576 w qp qn qc ql) :
    Calls Try.prog 8 #[pgv pf plo phi pr pp pn pc, pgv qf qlo qhi qr qp qn qc, e.val] w fun x w' => x = .returned (.bool true) ∧ Below w.heap.size w w' := by
  have HP : Hid (InE 1048576 w pp pn pc pl) := hp
  have HQ : Hid (InE 1048576 w qp qn qc ql) := hq
  have hpn : pn ≤ 1048576 := hp.room
  have hqn : qn ≤ 1048576 := hq.room
  clear hp hq
  obtain ⟨w0, hw0⟩ : ∃ w0, ((w.alloc (.cells #[.bool pf, .string plo, .string phi, .int .i64 pr, .slice pp pn pc] 24)).alloc (.cells #[.bool qf, .string qlo, .string qhi, .int .i64 qr, .slice qp qn qc] 24)).alloc (.cells #[.string e.key, .int .i64 e.s, .int .i64 e.g, .int .i64 e.c] 28) = w0 := ⟨_, rfl⟩
  have BW : Hid (Below w.heap.size w w0) := by rw [← hw0]; exact (((Below.refl _ _).alloc (Nat.le_refl _) _).alloc (by simp) _).alloc (by simp; omega) _
  have HXp : Hid (Bk w0 w.heap.size 24 #[.bool pf, .string plo, .string phi, .int .i64 pr, .slice pp pn pc]) := by rw [← hw0]; exact ((Bk.new _ _ _).alloc _).alloc _
  have HXq : Hid (Bk w0 (w.heap.size + 1) 24 #[.bool qf, .string qlo, .string qhi, .int .i64 qr, .slice qp qn qc]) := by rw [← hw0]; exact (Bk.new1 _ _ _ _).alloc _
  have HXe : Hid (Bk w0 (w.heap.size + 1 + 1) 28 #[.string e.key, .int .i64 e.s, .int .i64 e.g, .int .i64 e.c]) := by rw [← hw0]; exact Bk.new2 _ _ _ _ _
  go_enter Try.func8, Try.ntmps8
  go_wp2_with fail
  clear hw0
  refine wp_mono (Q := (fun x a' W => x = Exit.normal ∧ ∃ b7 b8 c1p c1c c2p c2c, a' = (⟨#[pgv pf plo phi pr pp pn pc, pgv qf qlo qhi qr qp qn qc, e.val, .pointer (some ⟨w.heap.size, 0, none⟩), .pointer (some ⟨w.heap.size + 1, 0, none⟩), .pointer (some ⟨w.heap.size + 1 + 1, 0, none⟩), .bool false, .pointer (some ⟨b7, 0, none⟩), .pointer (some ⟨b8, 0, none⟩), undef, undef, undef, undef, undef, undef, undef, undef, undef, undef, undef, undef, .agg #[.bool pf, .string plo, .string phi, .int .i64 pr, .slice pp pn pc], pgv pf plo phi pr c1p pn c1c, .agg #[.bool qf, .string qlo, .string qhi, .int .i64 qr, .slice qp qn qc], pgv qf qlo qhi qr c2p qn c2c, undef, undef, undef, undef, undef, undef, undef, undef, undef, undef, undef, undef, undef, undef, undef, undef, undef, undef, undef, undef, undef, undef, undef, undef, undef, undef, undef, undef, undef, undef, undef, undef, undef, undef, undef, undef, undef, undef, undef, undef, undef, undef, undef, undef, undef, undef, undef, undef, undef, undef, undef, undef, undef, undef, undef, undef, undef, undef, undef, undef, undef, undef, undef, undef, undef, undef, undef, undef], []⟩ : Act) ∧ Below w0.heap.size w0 W ∧ Bk W b7 24 #[.bool pf, .string plo, .string phi, .int .i64 pr, .slice c1p pn c1c] ∧ Bk W b8 24 #[.bool qf, .string qlo, .string qhi, .int .i64 qr, .slice c2p qn c2c] ∧ Ens W c1p pl ∧ Ens W c2p ql)) ?_ ?_
  · obtain ⟨wd, hwd⟩ : ∃ wd, w0.drew = wd := ⟨_, rfl⟩
    have hB : Below w0.heap.size w0 wd := by rw [← hwd]; exact (Below.refl _ _).drew
    refine wp_region_mid (S := (fun w' => Below w0.heap.size w0 w')) 6 (by kernel_rfl) ?_
    rw [hwd]
    clear hwd
    refine wpAnyM_take (i := 0) [1, 3, 6, 7] (oi := { dst := some 21, op := Op.load 24 (Operand.tmp 3), type := 24, pos := _, after := #[], guard := none }) (v := .agg #[.bool pf, .string plo, .string phi, .int .i64 pr, .slice pp pn pc]) rfl (by kernel_rfl) (by kernel_rfl) (by kernel_rfl) (by kernel_rfl) (fun _ _ _ h => by cases h.1) (Or.inl ⟨by rfl, ?_⟩) hB ?_
    · (intro w' hSw; have hp9 := HXp.out.below hSw HXp.out.lt; have hq9 := HXq.out.below hSw HXq.out.lt; have p0 := hp9.cell 0; have p1 := hp9.cell 1; have p2 := hp9.cell 2; have p3 := hp9.cell 3; have p4 := hp9.cell 4; have q0 := hq9.cell 0; have q1 := hq9.cell 1; have q2 := hq9.cell 2; have q3 := hq9.cell 3; have q4 := hq9.cell 4; simp at p0 p1 p2 p3 p4 q0 q1 q2 q3 q4; clear hp9 hq9 hSw; go_simp; try with_reducible rfl)
    try simp only [Act.put, List.setIfInBounds_toArray, List.set_cons_zero, List.set_cons_succ]
    refine wpAnyM_take (i := 2) [3, 6, 7] (oi := { dst := some 23, op := Op.load 24 (Operand.tmp 4), type := 24, pos := _, after := #[], guard := none }) (v := .agg #[.bool qf, .string qlo, .string qhi, .int .i64 qr, .slice qp qn qc]) rfl (by kernel_rfl) (by kernel_rfl) (by kernel_rfl) (by kernel_rfl) (fun _ _ _ h => by cases h.1) (Or.inl ⟨by rfl, ?_⟩) hB ?_
    · (intro w' hSw; have hp9 := HXp.out.below hSw HXp.out.lt; have hq9 := HXq.out.below hSw HXq.out.lt; have p0 := hp9.cell 0; have p1 := hp9.cell 1; have p2 := hp9.cell 2; have p3 := hp9.cell 3; have p4 := hp9.cell 4; have q0 := hq9.cell 0; have q1 := hq9.cell 1; have q2 := hq9.cell 2; have q3 := hq9.cell 3; have q4 := hq9.cell 4; simp at p0 p1 p2 p3 p4 q0 q1 q2 q3 q4; clear hp9 hq9 hSw; go_simp; try with_reducible rfl)
    try simp only [Act.put, List.setIfInBounds_toArray, List.set_cons_zero, List.set_cons_succ]
    refine wpAnyM_ready (rs := [1, 4, 5]) (by kernel_rfl) (by simp) ?_
    refine AllReadyM.cons (o := { dst := some 22, op := Op.call { callee := Callee.value (Operand.func 32), args := #[Operand.tmp 21], argTypes := #[24] }, type := 24, pos := _, after := #[{ on := 0, ground := Ground.data }], guard := none }) rfl (fun K hK => ?_) (AllReadyM.cons (o := { dst := some 7, op := Op.alloc 24, type := 0, pos := _, after := #[], guard := none }) rfl (fun K hK => ?_) (AllReadyM.cons (o := { dst := some 8, op := Op.alloc 24, type := 0, pos := _, after := #[], guard := none }) rfl (fun K hK => ?_) AllReadyM.nil))
    · have HK9 : Hid (∀ a w, _ → K a w) := hK
      clear hK
      go_simp
      refine (rclone_any pf plo phi pr pp pn pc pl _ HP.out.lenq (HP.out.ens.below (BW.out.trans (hB.mono BW.out.size)) (Nat.le_refl _)) (by omega) HP.out.nil).mono ?_
      rintro x x1 ⟨c1p, c1c, rfl, ho, hb⟩
      have hB0 := hB
      have hB : Below w0.heap.size w0 x1 := hB0.trans (hb.mono hB0.size)
      try go_wp2_with fail
      refine HK9.out _ _ ⟨fun _ => hB, ?_⟩
      clear HK9 K
      try simp only [Act.put, List.setIfInBounds_toArray, List.set_cons_zero, List.set_cons_succ]
      have hs1 := (ho.seg).mono (Nat.zero_le _)
      clear hB0 hb ho
      refine wpAnyM_ready (rs := [3, 4, 5]) (by kernel_rfl) (by simp) ?_
      refine AllReadyM.cons (o := { dst := some 24, op := Op.call { callee := Callee.value (Operand.func 32), args := #[Operand.tmp 23], argTypes := #[24] }, type := 24, pos := _, after := #[{ on := 2, ground := Ground.data }, { on := 1, ground := Ground.chain }], guard := none }) rfl (fun K hK => ?_) (AllReadyM.cons (o := { dst := some 7, op := Op.alloc 24, type := 0, pos := _, after := #[], guard := none }) rfl (fun K hK => ?_) (AllReadyM.cons (o := { dst := some 8, op := Op.alloc 24, type := 0, pos := _, after := #[], guard := none }) rfl (fun K hK => ?_) AllReadyM.nil))
      · have HK9 : Hid (∀ a w, _ → K a w) := hK
        clear hK
        go_simp
        refine (rclone_any qf qlo qhi qr qp qn qc ql _ HQ.out.lenq (HQ.out.ens.below (BW.out.trans (hB.mono BW.out.size)) (Nat.le_refl _)) (by omega) HQ.out.nil).mono ?_
        rintro x x2 ⟨c2p, c2c, rfl, ho, hb⟩
        have hB0 := hB
        have hB : Below w0.heap.size w0 x2 := hB0.trans (hb.mono hB0.size)
        try go_wp2_with fail
        refine HK9.out _ _ ⟨fun _ => hB, ?_⟩
        clear HK9 K
        try simp only [Act.put, List.setIfInBounds_toArray, List.set_cons_zero, List.set_cons_succ]
        have hs1 := hs1.below hb (Nat.le_refl _)
        have hs2 := (ho.seg).mono (Nat.zero_le _)
        clear hB0 hb ho
        refine wpAnyM_ready (rs := [4, 5]) (by kernel_rfl) (by simp) ?_
        refine AllReadyM.cons (o := { dst := some 7, op := Op.alloc 24, type := 0, pos := _, after := #[], guard := none }) rfl (fun K hK => ?_) (AllReadyM.cons (o := { dst := some 8, op := Op.alloc 24, type := 0, pos := _, after := #[], guard := none }) rfl (fun K hK => ?_) AllReadyM.nil)
        · have HK9 : Hid (∀ a w, _ → K a w) := hK
          clear hK
          go_simp
          have hB0 := hB
          have hal : Below x2.heap.size x2 (x2.alloc (.cells zc 24)) := (Below.refl _ _).alloc (Nat.le_refl _) _
          have hB := hB0.trans (hal.mono hB0.size)
          refine HK9.out _ _ ⟨fun _ => hB, ?_⟩
          clear HK9 K
          try simp only [Act.put, List.setIfInBounds_toArray, List.set_cons_zero, List.set_cons_succ]
          have hk7 := Bk.new x2 24 zc
          have hs1 := hs1.below hal (Nat.le_refl _)
          have hs2 := hs2.below hal (Nat.le_refl _)
          have hg7' := hB0.size
          obtain ⟨b7, hbe⟩ : ∃ b7, x2.heap.size = b7 := ⟨_, rfl⟩
          rw [hbe] at hk7
          have hg7 : w0.heap.size ≤ b7 := by rw [← hbe]; exact hg7'
          obtain ⟨x3, hWe⟩ : ∃ x3, x2.alloc (.cells zc 24) = x3 := ⟨_, rfl⟩
          try unfold zc at hWe
          have hB : Below w0.heap.size w0 x3 := by rw [← hWe]; exact hB
          have hk7 : Bk x3 b7 24 zc := by rw [← hWe]; exact hk7
          have hs1 : Seg x3 0 c1p pn c1c pl := by rw [← hWe]; exact hs1
          have hs2 : Seg x3 0 c2p qn c2c ql := by rw [← hWe]; exact hs2
          rw [hWe, hbe]
          clear hWe hbe hal hB0
          refine wpAnyM_ready (rs := [5]) (by kernel_rfl) (by simp) ?_
          refine AllReadyM.cons (o := { dst := some 8, op := Op.alloc 24, type := 0, pos := _, after := #[], guard := none }) rfl (fun K hK => ?_) AllReadyM.nil
          · have HK9 : Hid (∀ a w, _ → K a w) := hK
            clear hK
            go_simp
            have hB0 := hB
            have hal : Below x3.heap.size x3 (x3.alloc (.cells zc 24)) := (Below.refl _ _).alloc (Nat.le_refl _) _
            have hB := hB0.trans (hal.mono hB0.size)
            refine HK9.out _ _ ⟨fun _ => hB, ?_⟩
            clear HK9 K
            try simp only [Act.put, List.setIfInBounds_toArray, List.set_cons_zero, List.set_cons_succ]
            have hk8 := Bk.new x3 24 zc
            have hlt := hk7.lt
            have hk7 := hk7.alloc (.cells zc 24)
            have hs1 := hs1.below hal (Nat.le_refl _)
            have hs2 := hs2.below hal (Nat.le_refl _)
            have hg8' := hB0.size
            obtain ⟨b8, hbe⟩ : ∃ b8, x3.heap.size = b8 := ⟨_, rfl⟩
            rw [hbe] at hk8
            have hg8 : w0.heap.size ≤ b8 := by rw [← hbe]; exact hg8'
            have hne : b7 ≠ b8 := by rw [← hbe]; exact Nat.ne_of_lt hlt
            obtain ⟨x4, hWe⟩ : ∃ x4, x3.alloc (.cells zc 24) = x4 := ⟨_, rfl⟩
            try unfold zc at hWe
            have hB : Below w0.heap.size w0 x4 := by rw [← hWe]; exact hB
            have hk8 : Bk x4 b8 24 zc := by rw [← hWe]; exact hk8
            have hk7 : Bk x4 b7 24 zc := by rw [← hWe]; exact hk7
            have hs1 : Seg x4 0 c1p pn c1c pl := by rw [← hWe]; exact hs1
            have hs2 : Seg x4 0 c2p qn c2c ql := by rw [← hWe]; exact hs2
            rw [hWe, hbe]
            clear hWe hbe hal hB0 hlt
            have z0 : x4.cell? ⟨b7, 0, none⟩ = some (.bool false) := hk7.cell 0
            have y0 : x4.frozen? ⟨b7, 0, none⟩ = false := hk7.frozen 0
            have z1 : x4.cell? ⟨b7, 1, none⟩ = some (.string ⟨#[]⟩) := hk7.cell 1
            have y1 : x4.frozen? ⟨b7, 1, none⟩ = false := hk7.frozen 1
            have z2 : x4.cell? ⟨b7, 2, none⟩ = some (.string ⟨#[]⟩) := hk7.cell 2
            have y2 : x4.frozen? ⟨b7, 2, none⟩ = false := hk7.frozen 2
            have z3 : x4.cell? ⟨b7, 3, none⟩ = some (.int .i64 0) := hk7.cell 3
            have y3 : x4.frozen? ⟨b7, 3, none⟩ = false := hk7.frozen 3
            have z4 : x4.cell? ⟨b7, 4, none⟩ = some (.slice none 0 0) := hk7.cell 4
            have y4 : x4.frozen? ⟨b7, 4, none⟩ = false := hk7.frozen 4
            refine wpAnyM_ready (rs := [6]) (by kernel_rfl) (by simp) ?_
            refine AllReadyM.cons (o := { dst := none, op := Op.store 24 (Operand.tmp 7) (Operand.tmp 22), type := 0, pos := _, after := #[{ on := 4, ground := Ground.data }, { on := 1, ground := Ground.data }, { on := 3, ground := Ground.chain }, { on := 0, ground := Ground.phase }, { on := 1, ground := Ground.phase }, { on := 2, ground := Ground.textOnly Departure.lateStores }, { on := 3, ground := Ground.textOnly Departure.lateStoresUnsure }, { on := 4, ground := Ground.phase }, { on := 5, ground := Ground.phase }], guard := none }) rfl (fun K hK => ?_) AllReadyM.nil
            have HK9 : Hid (∀ a w, _ → K a w) := hK
            clear hK
            go_simp
            refine HK9.out _ _ ⟨fun h => absurd h (by omega), ?_⟩
            clear HK9 K
            try simp only [Act.put, List.setIfInBounds_toArray, List.set_cons_zero, List.set_cons_succ]
            clear z0 y0 z1 y1 z2 y2 z3 y3 z4 y4
            obtain ⟨wx, hwx⟩ : ∃ wx, wx = put5 x4 b7 (.bool pf) (.string plo) (.string phi) (.int .i64 pr) (.slice c1p pn c1c) := ⟨_, rfl⟩
            have ht : Tn [b7] x4 wx := by rw [hwx]; exact (Tn.refl _ _).five (.inl (by simp)) _ _ _ _ _
            have hk7' : Bk wx b7 24 #[.bool pf, .string plo, .string phi, .int .i64 pr, .slice c1p pn c1c] := by rw [hwx]; exact Bk.five hk7 _ _ _ _ _
            have hk8' : Bk wx b8 24 zc := hk8.tn ht (by simpa using fun h => hne h.symm)
            have hs1' := hs1.page hk7 ht
            have hs2' := hs2.page hk7 ht
            unfold put5 at hwx
            rw [← hwx]
            clear hwx
            have z0 : wx.cell? ⟨b8, 0, none⟩ = some (.bool false) := hk8'.cell 0
            have y0 : wx.frozen? ⟨b8, 0, none⟩ = false := hk8'.frozen 0
            have z1 : wx.cell? ⟨b8, 1, none⟩ = some (.string ⟨#[]⟩) := hk8'.cell 1
            have y1 : wx.frozen? ⟨b8, 1, none⟩ = false := hk8'.frozen 1
            have z2 : wx.cell? ⟨b8, 2, none⟩ = some (.string ⟨#[]⟩) := hk8'.cell 2
            have y2 : wx.frozen? ⟨b8, 2, none⟩ = false := hk8'.frozen 2
            have z3 : wx.cell? ⟨b8, 3, none⟩ = some (.int .i64 0) := hk8'.cell 3
            have y3 : wx.frozen? ⟨b8, 3, none⟩ = false := hk8'.frozen 3
            have z4 : wx.cell? ⟨b8, 4, none⟩ = some (.slice none 0 0) := hk8'.cell 4
            have y4 : wx.frozen? ⟨b8, 4, none⟩ = false := hk8'.frozen 4
            refine wpAnyM_ready (rs := [7]) (by kernel_rfl) (by simp) ?_
            refine AllReadyM.cons (o := { dst := none, op := Op.store 24 (Operand.tmp 8) (Operand.tmp 24), type := 0, pos := _, after := #[{ on := 5, ground := Ground.data }, { on := 3, ground := Ground.data }, { on := 6, ground := Ground.chain }, { on := 0, ground := Ground.phase }, { on := 1, ground := Ground.phase }, { on := 2, ground := Ground.phase }, { on := 3, ground := Ground.phase }, { on := 4, ground := Ground.phase }, { on := 5, ground := Ground.phase }, { on := 6, ground := Ground.phase }], guard := none }) rfl (fun K hK => ?_) AllReadyM.nil
            have HK9 : Hid (∀ a w, _ → K a w) := hK
            clear hK
            go_simp
            refine HK9.out _ _ ⟨fun h => absurd h (by omega), ?_⟩
            clear HK9 K
            try simp only [Act.put, List.setIfInBounds_toArray, List.set_cons_zero, List.set_cons_succ]
            clear z0 y0 z1 y1 z2 y2 z3 y3 z4 y4
            obtain ⟨wy, hwy⟩ : ∃ wy, wy = put5 wx b8 (.bool qf) (.string qlo) (.string qhi) (.int .i64 qr) (.slice c2p qn c2c) := ⟨_, rfl⟩
            have ht2 : Tn [b8] wx wy := by rw [hwy]; exact (Tn.refl _ _).five (.inl (by simp)) _ _ _ _ _
            have hk8'' : Bk wy b8 24 #[.bool qf, .string qlo, .string qhi, .int .i64 qr, .slice c2p qn c2c] := by rw [hwy]; exact Bk.five hk8' _ _ _ _ _
            have hk7'' := hk7'.tn ht2 (by simpa using hne)
            have hs1'' := hs1'.page hk8' ht2
            have hs2'' := hs2'.page hk8' ht2
            unfold put5 at hwy
            rw [← hwy]
            clear hwy
            refine wpAnyM_done (by kernel_rfl) ?_ _
            have hbb : w0.heap.size ≤ b7 ∧ w0.heap.size ≤ b8 := ⟨hg7, hg8⟩
            exact ⟨rfl, b7, b8, c1p, c1c, c2p, c2c, rfl, (hB.trans (ht.below hB.size (by simpa using hbb.1))).trans (ht2.below (Nat.le_trans hB.size ht.size) (by simpa using hbb.2)), hk7'', hk8'', hs1''.ens, hs2''.ens⟩
        · have HK9 : Hid (∀ a w, _ → K a w) := hK
          clear hK
          go_simp
          have hB0 := hB
          have hal : Below x2.heap.size x2 (x2.alloc (.cells zc 24)) := (Below.refl _ _).alloc (Nat.le_refl _) _
          have hB := hB0.trans (hal.mono hB0.size)
          refine HK9.out _ _ ⟨fun _ => hB, ?_⟩
          clear HK9 K
          try simp only [Act.put, List.setIfInBounds_toArray, List.set_cons_zero, List.set_cons_succ]
          have hk8 := Bk.new x2 24 zc
          have hs1 := hs1.below hal (Nat.le_refl _)
          have hs2 := hs2.below hal (Nat.le_refl _)
          have hg8' := hB0.size
          obtain ⟨b8, hbe⟩ : ∃ b8, x2.heap.size = b8 := ⟨_, rfl⟩
          rw [hbe] at hk8
          have hg8 : w0.heap.size ≤ b8 := by rw [← hbe]; exact hg8'
          obtain ⟨x5, hWe⟩ : ∃ x5, x2.alloc (.cells zc 24) = x5 := ⟨_, rfl⟩
          try unfold zc at hWe
          have hB : Below w0.heap.size w0 x5 := by rw [← hWe]; exact hB
          have hk8 : Bk x5 b8 24 zc := by rw [← hWe]; exact hk8
          have hs1 : Seg x5 0 c1p pn c1c pl := by rw [← hWe]; exact hs1
          have hs2 : Seg x5 0 c2p qn c2c ql := by rw [← hWe]; exact hs2
          rw [hWe, hbe]
          clear hWe hbe hal hB0
          refine wpAnyM_ready (rs := [4]) (by kernel_rfl) (by simp) ?_
          refine AllReadyM.cons (o := { dst := some 7, op := Op.alloc 24, type := 0, pos := _, after := #[], guard := none }) rfl (fun K hK => ?_) AllReadyM.nil
          · have HK9 : Hid (∀ a w, _ → K a w) := hK
            clear hK
            go_simp
            have hB0 := hB
            have hal : Below x5.heap.size x5 (x5.alloc (.cells zc 24)) := (Below.refl _ _).alloc (Nat.le_refl _) _
            have hB := hB0.trans (hal.mono hB0.size)
            refine HK9.out _ _ ⟨fun _ => hB, ?_⟩
            clear HK9 K
            try simp only [Act.put, List.setIfInBounds_toArray, List.set_cons_zero, List.set_cons_succ]
            have hk7 := Bk.new x5 24 zc
            have hlt := hk8.lt
            have hk8 := hk8.alloc (.cells zc 24)
            have hs1 := hs1.below hal (Nat.le_refl _)
            have hs2 := hs2.below hal (Nat.le_refl _)
            have hg7' := hB0.size
            obtain ⟨b7, hbe⟩ : ∃ b7, x5.heap.size = b7 := ⟨_, rfl⟩
            rw [hbe] at hk7
            have hg7 : w0.heap.size ≤ b7 := by rw [← hbe]; exact hg7'
            have hne : b7 ≠ b8 := by rw [← hbe]; exact Nat.ne_of_gt hlt
            obtain ⟨x6, hWe⟩ : ∃ x6, x5.alloc (.cells zc 24) = x6 := ⟨_, rfl⟩
            try unfold zc at hWe
            have hB : Below w0.heap.size w0 x6 := by rw [← hWe]; exact hB
            have hk7 : Bk x6 b7 24 zc := by rw [← hWe]; exact hk7
            have hk8 : Bk x6 b8 24 zc := by rw [← hWe]; exact hk8
            have hs1 : Seg x6 0 c1p pn c1c pl := by rw [← hWe]; exact hs1
            have hs2 : Seg x6 0 c2p qn c2c ql := by rw [← hWe]; exact hs2
            rw [hWe, hbe]
            clear hWe hbe hal hB0 hlt
            have z0 : x6.cell? ⟨b7, 0, none⟩ = some (.bool false) := hk7.cell 0
            have y0 : x6.frozen? ⟨b7, 0, none⟩ = false := hk7.frozen 0
            have z1 : x6.cell? ⟨b7, 1, none⟩ = some (.string ⟨#[]⟩) := hk7.cell 1
            have y1 : x6.frozen? ⟨b7, 1, none⟩ = false := hk7.frozen 1
            have z2 : x6.cell? ⟨b7, 2, none⟩ = some (.string ⟨#[]⟩) := hk7.cell 2
            have y2 : x6.frozen? ⟨b7, 2, none⟩ = false := hk7.frozen 2
            have z3 : x6.cell? ⟨b7, 3, none⟩ = some (.int .i64 0) := hk7.cell 3
            have y3 : x6.frozen? ⟨b7, 3, none⟩ = false := hk7.frozen 3
            have z4 : x6.cell? ⟨b7, 4, none⟩ = some (.slice none 0 0) := hk7.cell 4
            have y4 : x6.frozen? ⟨b7, 4, none⟩ = false := hk7.frozen 4
            refine wpAnyM_ready (rs := [6]) (by kernel_rfl) (by simp) ?_
            refine AllReadyM.cons (o := { dst := none, op := Op.store 24 (Operand.tmp 7) (Operand.tmp 22), type := 0, pos := _, after := #[{ on := 4, ground := Ground.data }, { on := 1, ground := Ground.data }, { on := 3, ground := Ground.chain }, { on := 0, ground := Ground.phase }, { on := 1, ground := Ground.phase }, { on := 2, ground := Ground.textOnly Departure.lateStores }, { on := 3, ground := Ground.textOnly Departure.lateStoresUnsure }, { on := 4, ground := Ground.phase }, { on := 5, ground := Ground.phase }], guard := none }) rfl (fun K hK => ?_) AllReadyM.nil
            have HK9 : Hid (∀ a w, _ → K a w) := hK
            clear hK
            go_simp
            refine HK9.out _ _ ⟨fun h => absurd h (by omega), ?_⟩
            clear HK9 K
            try simp only [Act.put, List.setIfInBounds_toArray, List.set_cons_zero, List.set_cons_succ]
            clear z0 y0 z1 y1 z2 y2 z3 y3 z4 y4
            obtain ⟨wx, hwx⟩ : ∃ wx, wx = put5 x6 b7 (.bool pf) (.string plo) (.string phi) (.int .i64 pr) (.slice c1p pn c1c) := ⟨_, rfl⟩
            have ht : Tn [b7] x6 wx := by rw [hwx]; exact (Tn.refl _ _).five (.inl (by simp)) _ _ _ _ _
            have hk7' : Bk wx b7 24 #[.bool pf, .string plo, .string phi, .int .i64 pr, .slice c1p pn c1c] := by rw [hwx]; exact Bk.five hk7 _ _ _ _ _
            have hk8' : Bk wx b8 24 zc := hk8.tn ht (by simpa using fun h => hne h.symm)
            have hs1' := hs1.page hk7 ht
            have hs2' := hs2.page hk7 ht
            unfold put5 at hwx
            rw [← hwx]
            clear hwx
            have z0 : wx.cell? ⟨b8, 0, none⟩ = some (.bool false) := hk8'.cell 0
            have y0 : wx.frozen? ⟨b8, 0, none⟩ = false := hk8'.frozen 0
            have z1 : wx.cell? ⟨b8, 1, none⟩ = some (.string ⟨#[]⟩) := hk8'.cell 1
            have y1 : wx.frozen? ⟨b8, 1, none⟩ = false := hk8'.frozen 1
            have z2 : wx.cell? ⟨b8, 2, none⟩ = some (.string ⟨#[]⟩) := hk8'.cell 2
            have y2 : wx.frozen? ⟨b8, 2, none⟩ = false := hk8'.frozen 2
            have z3 : wx.cell? ⟨b8, 3, none⟩ = some (.int .i64 0) := hk8'.cell 3
            have y3 : wx.frozen? ⟨b8, 3, none⟩ = false := hk8'.frozen 3
            have z4 : wx.cell? ⟨b8, 4, none⟩ = some (.slice none 0 0) := hk8'.cell 4
            have y4 : wx.frozen? ⟨b8, 4, none⟩ = false := hk8'.frozen 4
            refine wpAnyM_ready (rs := [7]) (by kernel_rfl) (by simp) ?_
            refine AllReadyM.cons (o := { dst := none, op := Op.store 24 (Operand.tmp 8) (Operand.tmp 24), type := 0, pos := _, after := #[{ on := 5, ground := Ground.data }, { on := 3, ground := Ground.data }, { on := 6, ground := Ground.chain }, { on := 0, ground := Ground.phase }, { on := 1, ground := Ground.phase }, { on := 2, ground := Ground.phase }, { on := 3, ground := Ground.phase }, { on := 4, ground := Ground.phase }, { on := 5, ground := Ground.phase }, { on := 6, ground := Ground.phase }], guard := none }) rfl (fun K hK => ?_) AllReadyM.nil
            have HK9 : Hid (∀ a w, _ → K a w) := hK
            clear hK
            go_simp
            refine HK9.out _ _ ⟨fun h => absurd h (by omega), ?_⟩
            clear HK9 K
            try simp only [Act.put, List.setIfInBounds_toArray, List.set_cons_zero, List.set_cons_succ]
            clear z0 y0 z1 y1 z2 y2 z3 y3 z4 y4
            obtain ⟨wy, hwy⟩ : ∃ wy, wy = put5 wx b8 (.bool qf) (.string qlo) (.string qhi) (.int .i64 qr) (.slice c2p qn c2c) := ⟨_, rfl⟩
            have ht2 : Tn [b8] wx wy := by rw [hwy]; exact (Tn.refl _ _).five (.inl (by simp)) _ _ _ _ _
            have hk8'' : Bk wy b8 24 #[.bool qf, .string qlo, .string qhi, .int .i64 qr, .slice c2p qn c2c] := by rw [hwy]; exact Bk.five hk8' _ _ _ _ _
            have hk7'' := hk7'.tn ht2 (by simpa using hne)
            have hs1'' := hs1'.page hk8' ht2
            have hs2'' := hs2'.page hk8' ht2
            unfold put5 at hwy
            rw [← hwy]
            clear hwy
            refine wpAnyM_done (by kernel_rfl) ?_ _
            have hbb : w0.heap.size ≤ b7 ∧ w0.heap.size ≤ b8 := ⟨hg7, hg8⟩
            exact ⟨rfl, b7, b8, c1p, c1c, c2p, c2c, rfl, (hB.trans (ht.below hB.size (by simpa using hbb.1))).trans (ht2.below (Nat.le_trans hB.size ht.size) (by simpa using hbb.2)), hk7'', hk8'', hs1''.ens, hs2''.ens⟩
      · have HK9 : Hid (∀ a w, _ → K a w) := hK
        clear hK
        go_simp
        have hB0 := hB
        have hal : Below x1.heap.size x1 (x1.alloc (.cells zc 24)) := (Below.refl _ _).alloc (Nat.le_refl _) _
        have hB := hB0.trans (hal.mono hB0.size)
        refine HK9.out _ _ ⟨fun _ => hB, ?_⟩
        clear HK9 K
        try simp only [Act.put, List.setIfInBounds_toArray, List.set_cons_zero, List.set_cons_succ]
        have hk7 := Bk.new x1 24 zc
        have hs1 := hs1.below hal (Nat.le_refl _)
        have hg7' := hB0.size
        obtain ⟨b7, hbe⟩ : ∃ b7, x1.heap.size = b7 := ⟨_, rfl⟩
        rw [hbe] at hk7
        have hg7 : w0.heap.size ≤ b7 := by rw [← hbe]; exact hg7'
        obtain ⟨x7, hWe⟩ : ∃ x7, x1.alloc (.cells zc 24) = x7 := ⟨_, rfl⟩
        try unfold zc at hWe
        have hB : Below w0.heap.size w0 x7 := by rw [← hWe]; exact hB
        have hk7 : Bk x7 b7 24 zc := by rw [← hWe]; exact hk7
        have hs1 : Seg x7 0 c1p pn c1c pl := by rw [← hWe]; exact hs1
        rw [hWe, hbe]
        clear hWe hbe hal hB0
        refine wpAnyM_ready (rs := [3, 5]) (by kernel_rfl) (by simp) ?_
        refine AllReadyM.cons (o := { dst := some 24, op := Op.call { callee := Callee.value (Operand.func 32), args := #[Operand.tmp 23], argTypes := #[24] }, type := 24, pos := _, after := #[{ on := 2, ground := Ground.data }, { on := 1, ground := Ground.chain }], guard := none }) rfl (fun K hK => ?_) (AllReadyM.cons (o := { dst := some 8, op := Op.alloc 24, type := 0, pos := _, after := #[], guard := none }) rfl (fun K hK => ?_) AllReadyM.nil)
        · have HK9 : Hid (∀ a w, _ → K a w) := hK
          clear hK
          go_simp
          refine (rclone_any qf qlo qhi qr qp qn qc ql _ HQ.out.lenq (HQ.out.ens.below (BW.out.trans (hB.mono BW.out.size)) (Nat.le_refl _)) (by omega) HQ.out.nil).mono ?_
          rintro x x8 ⟨c2p, c2c, rfl, ho, hb⟩
          have hB0 := hB
          have hB : Below w0.heap.size w0 x8 := hB0.trans (hb.mono hB0.size)
          try go_wp2_with fail
          refine HK9.out _ _ ⟨fun _ => hB, ?_⟩
          clear HK9 K
          try simp only [Act.put, List.setIfInBounds_toArray, List.set_cons_zero, List.set_cons_succ]
          have hk7 := hk7.below hb hk7.lt
          have hs1 := hs1.below hb (Nat.le_refl _)
          have hs2 := (ho.seg).mono (Nat.zero_le _)
          clear hB0 hb ho
          refine wpAnyM_ready (rs := [5]) (by kernel_rfl) (by simp) ?_
          refine AllReadyM.cons (o := { dst := some 8, op := Op.alloc 24, type := 0, pos := _, after := #[], guard := none }) rfl (fun K hK => ?_) AllReadyM.nil
          · have HK9 : Hid (∀ a w, _ → K a w) := hK
            clear hK
            go_simp
            have hB0 := hB
            have hal : Below x8.heap.size x8 (x8.alloc (.cells zc 24)) := (Below.refl _ _).alloc (Nat.le_refl _) _
            have hB := hB0.trans (hal.mono hB0.size)
            refine HK9.out _ _ ⟨fun _ => hB, ?_⟩
            clear HK9 K
            try simp only [Act.put, List.setIfInBounds_toArray, List.set_cons_zero, List.set_cons_succ]
            have hk8 := Bk.new x8 24 zc
            have hlt := hk7.lt
            have hk7 := hk7.alloc (.cells zc 24)
            have hs1 := hs1.below hal (Nat.le_refl _)
            have hs2 := hs2.below hal (Nat.le_refl _)
            have hg8' := hB0.size
            obtain ⟨b8, hbe⟩ : ∃ b8, x8.heap.size = b8 := ⟨_, rfl⟩
            rw [hbe] at hk8
            have hg8 : w0.heap.size ≤ b8 := by rw [← hbe]; exact hg8'
            have hne : b7 ≠ b8 := by rw [← hbe]; exact Nat.ne_of_lt hlt
            obtain ⟨x9, hWe⟩ : ∃ x9, x8.alloc (.cells zc 24) = x9 := ⟨_, rfl⟩
            try unfold zc at hWe
            have hB : Below w0.heap.size w0 x9 := by rw [← hWe]; exact hB
            have hk8 : Bk x9 b8 24 zc := by rw [← hWe]; exact hk8
            have hk7 : Bk x9 b7 24 zc := by rw [← hWe]; exact hk7
            have hs1 : Seg x9 0 c1p pn c1c pl := by rw [← hWe]; exact hs1
            have hs2 : Seg x9 0 c2p qn c2c ql := by rw [← hWe]; exact hs2
            rw [hWe, hbe]
            clear hWe hbe hal hB0 hlt
            have z0 : x9.cell? ⟨b7, 0, none⟩ = some (.bool false) := hk7.cell 0
            have y0 : x9.frozen? ⟨b7, 0, none⟩ = false := hk7.frozen 0
            have z1 : x9.cell? ⟨b7, 1, none⟩ = some (.string ⟨#[]⟩) := hk7.cell 1
            have y1 : x9.frozen? ⟨b7, 1, none⟩ = false := hk7.frozen 1
            have z2 : x9.cell? ⟨b7, 2, none⟩ = some (.string ⟨#[]⟩) := hk7.cell 2
            have y2 : x9.frozen? ⟨b7, 2, none⟩ = false := hk7.frozen 2
            have z3 : x9.cell? ⟨b7, 3, none⟩ = some (.int .i64 0) := hk7.cell 3
            have y3 : x9.frozen? ⟨b7, 3, none⟩ = false := hk7.frozen 3
            have z4 : x9.cell? ⟨b7, 4, none⟩ = some (.slice none 0 0) := hk7.cell 4
            have y4 : x9.frozen? ⟨b7, 4, none⟩ = false := hk7.frozen 4
            refine wpAnyM_ready (rs := [6]) (by kernel_rfl) (by simp) ?_
            refine AllReadyM.cons (o := { dst := none, op := Op.store 24 (Operand.tmp 7) (Operand.tmp 22), type := 0, pos := _, after := #[{ on := 4, ground := Ground.data }, { on := 1, ground := Ground.data }, { on := 3, ground := Ground.chain }, { on := 0, ground := Ground.phase }, { on := 1, ground := Ground.phase }, { on := 2, ground := Ground.textOnly Departure.lateStores }, { on := 3, ground := Ground.textOnly Departure.lateStoresUnsure }, { on := 4, ground := Ground.phase }, { on := 5, ground := Ground.phase }], guard := none }) rfl (fun K hK => ?_) AllReadyM.nil
            have HK9 : Hid (∀ a w, _ → K a w) := hK
            clear hK
            go_simp
            refine HK9.out _ _ ⟨fun h => absurd h (by omega), ?_⟩
            clear HK9 K
            try simp only [Act.put, List.setIfInBounds_toArray, List.set_cons_zero, List.set_cons_succ]
            clear z0 y0 z1 y1 z2 y2 z3 y3 z4 y4
            obtain ⟨wx, hwx⟩ : ∃ wx, wx = put5 x9 b7 (.bool pf) (.string plo) (.string phi) (.int .i64 pr) (.slice c1p pn c1c) := ⟨_, rfl⟩
            have ht : Tn [b7] x9 wx := by rw [hwx]; exact (Tn.refl _ _).five (.inl (by simp)) _ _ _ _ _
            have hk7' : Bk wx b7 24 #[.bool pf, .string plo, .string phi, .int .i64 pr, .slice c1p pn c1c] := by rw [hwx]; exact Bk.five hk7 _ _ _ _ _
            have hk8' : Bk wx b8 24 zc := hk8.tn ht (by simpa using fun h => hne h.symm)
            have hs1' := hs1.page hk7 ht
            have hs2' := hs2.page hk7 ht
            unfold put5 at hwx
            rw [← hwx]
            clear hwx
            have z0 : wx.cell? ⟨b8, 0, none⟩ = some (.bool false) := hk8'.cell 0
            have y0 : wx.frozen? ⟨b8, 0, none⟩ = false := hk8'.frozen 0
            have z1 : wx.cell? ⟨b8, 1, none⟩ = some (.string ⟨#[]⟩) := hk8'.cell 1
            have y1 : wx.frozen? ⟨b8, 1, none⟩ = false := hk8'.frozen 1
            have z2 : wx.cell? ⟨b8, 2, none⟩ = some (.string ⟨#[]⟩) := hk8'.cell 2
            have y2 : wx.frozen? ⟨b8, 2, none⟩ = false := hk8'.frozen 2
            have z3 : wx.cell? ⟨b8, 3, none⟩ = some (.int .i64 0) := hk8'.cell 3
            have y3 : wx.frozen? ⟨b8, 3, none⟩ = false := hk8'.frozen 3
            have z4 : wx.cell? ⟨b8, 4, none⟩ = some (.slice none 0 0) := hk8'.cell 4
            have y4 : wx.frozen? ⟨b8, 4, none⟩ = false := hk8'.frozen 4
            refine wpAnyM_ready (rs := [7]) (by kernel_rfl) (by simp) ?_
            refine AllReadyM.cons (o := { dst := none, op := Op.store 24 (Operand.tmp 8) (Operand.tmp 24), type := 0, pos := _, after := #[{ on := 5, ground := Ground.data }, { on := 3, ground := Ground.data }, { on := 6, ground := Ground.chain }, { on := 0, ground := Ground.phase }, { on := 1, ground := Ground.phase }, { on := 2, ground := Ground.phase }, { on := 3, ground := Ground.phase }, { on := 4, ground := Ground.phase }, { on := 5, ground := Ground.phase }, { on := 6, ground := Ground.phase }], guard := none }) rfl (fun K hK => ?_) AllReadyM.nil
            have HK9 : Hid (∀ a w, _ → K a w) := hK
            clear hK
            go_simp
            refine HK9.out _ _ ⟨fun h => absurd h (by omega), ?_⟩
            clear HK9 K
            try simp only [Act.put, List.setIfInBounds_toArray, List.set_cons_zero, List.set_cons_succ]
            clear z0 y0 z1 y1 z2 y2 z3 y3 z4 y4
            obtain ⟨wy, hwy⟩ : ∃ wy, wy = put5 wx b8 (.bool qf) (.string qlo) (.string qhi) (.int .i64 qr) (.slice c2p qn c2c) := ⟨_, rfl⟩
            have ht2 : Tn [b8] wx wy := by rw [hwy]; exact (Tn.refl _ _).five (.inl (by simp)) _ _ _ _ _
            have hk8'' : Bk wy b8 24 #[.bool qf, .string qlo, .string qhi, .int .i64 qr, .slice c2p qn c2c] := by rw [hwy]; exact Bk.five hk8' _ _ _ _ _
            have hk7'' := hk7'.tn ht2 (by simpa using hne)
            have hs1'' := hs1'.page hk8' ht2
            have hs2'' := hs2'.page hk8' ht2
            unfold put5 at hwy
            rw [← hwy]
            clear hwy
            refine wpAnyM_done (by kernel_rfl) ?_ _
            have hbb : w0.heap.size ≤ b7 ∧ w0.heap.size ≤ b8 := ⟨hg7, hg8⟩
            exact ⟨rfl, b7, b8, c1p, c1c, c2p, c2c, rfl, (hB.trans (ht.below hB.size (by simpa using hbb.1))).trans (ht2.below (Nat.le_trans hB.size ht.size) (by simpa using hbb.2)), hk7'', hk8'', hs1''.ens, hs2''.ens⟩
        · have HK9 : Hid (∀ a w, _ → K a w) := hK
          clear hK
          go_simp
          have hB0 := hB
          have hal : Below x7.heap.size x7 (x7.alloc (.cells zc 24)) := (Below.refl _ _).alloc (Nat.le_refl _) _
          have hB := hB0.trans (hal.mono hB0.size)
          refine HK9.out _ _ ⟨fun _ => hB, ?_⟩
          clear HK9 K
          try simp only [Act.put, List.setIfInBounds_toArray, List.set_cons_zero, List.set_cons_succ]
          have hk8 := Bk.new x7 24 zc
          have hlt := hk7.lt
          have hk7 := hk7.alloc (.cells zc 24)
          have hs1 := hs1.below hal (Nat.le_refl _)
          have hg8' := hB0.size
          obtain ⟨b8, hbe⟩ : ∃ b8, x7.heap.size = b8 := ⟨_, rfl⟩
          rw [hbe] at hk8
          have hg8 : w0.heap.size ≤ b8 := by rw [← hbe]; exact hg8'
          have hne : b7 ≠ b8 := by rw [← hbe]; exact Nat.ne_of_lt hlt
          obtain ⟨x10, hWe⟩ : ∃ x10, x7.alloc (.cells zc 24) = x10 := ⟨_, rfl⟩
          try unfold zc at hWe
          have hB : Below w0.heap.size w0 x10 := by rw [← hWe]; exact hB
          have hk8 : Bk x10 b8 24 zc := by rw [← hWe]; exact hk8
          have hk7 : Bk x10 b7 24 zc := by rw [← hWe]; exact hk7
          have hs1 : Seg x10 0 c1p pn c1c pl := by rw [← hWe]; exact hs1
          rw [hWe, hbe]
          clear hWe hbe hal hB0 hlt
          refine wpAnyM_ready (rs := [3]) (by kernel_rfl) (by simp) ?_
          refine AllReadyM.cons (o := { dst := some 24, op := Op.call { callee := Callee.value (Operand.func 32), args := #[Operand.tmp 23], argTypes := #[24] }, type := 24, pos := _, after := #[{ on := 2, ground := Ground.data }, { on := 1, ground := Ground.chain }], guard := none }) rfl (fun K hK => ?_) AllReadyM.nil
          · have HK9 : Hid (∀ a w, _ → K a w) := hK
            clear hK
            go_simp
            refine (rclone_any qf qlo qhi qr qp qn qc ql _ HQ.out.lenq (HQ.out.ens.below (BW.out.trans (hB.mono BW.out.size)) (Nat.le_refl _)) (by omega) HQ.out.nil).mono ?_
            rintro x x11 ⟨c2p, c2c, rfl, ho, hb⟩
            have hB0 := hB
            have hB : Below w0.heap.size w0 x11 := hB0.trans (hb.mono hB0.size)
            try go_wp2_with fail
            refine HK9.out _ _ ⟨fun _ => hB, ?_⟩
            clear HK9 K
            try simp only [Act.put, List.setIfInBounds_toArray, List.set_cons_zero, List.set_cons_succ]
            have hk7 := hk7.below hb hk7.lt
            have hk8 := hk8.below hb hk8.lt
            have hs1 := hs1.below hb (Nat.le_refl _)
            have hs2 := (ho.seg).mono (Nat.zero_le _)
            clear hB0 hb ho
            have z0 : x11.cell? ⟨b7, 0, none⟩ = some (.bool false) := hk7.cell 0
            have y0 : x11.frozen? ⟨b7, 0, none⟩ = false := hk7.frozen 0
            have z1 : x11.cell? ⟨b7, 1, none⟩ = some (.string ⟨#[]⟩) := hk7.cell 1
            have y1 : x11.frozen? ⟨b7, 1, none⟩ = false := hk7.frozen 1
            have z2 : x11.cell? ⟨b7, 2, none⟩ = some (.string ⟨#[]⟩) := hk7.cell 2
            have y2 : x11.frozen? ⟨b7, 2, none⟩ = false := hk7.frozen 2
            have z3 : x11.cell? ⟨b7, 3, none⟩ = some (.int .i64 0) := hk7.cell 3
            have y3 : x11.frozen? ⟨b7, 3, none⟩ = false := hk7.frozen 3
            have z4 : x11.cell? ⟨b7, 4, none⟩ = some (.slice none 0 0) := hk7.cell 4
            have y4 : x11.frozen? ⟨b7, 4, none⟩ = false := hk7.frozen 4
            refine wpAnyM_ready (rs := [6]) (by kernel_rfl) (by simp) ?_
            refine AllReadyM.cons (o := { dst := none, op := Op.store 24 (Operand.tmp 7) (Operand.tmp 22), type := 0, pos := _, after := #[{ on := 4, ground := Ground.data }, { on := 1, ground := Ground.data }, { on := 3, ground := Ground.chain }, { on := 0, ground := Ground.phase }, { on := 1, ground := Ground.phase }, { on := 2, ground := Ground.textOnly Departure.lateStores }, { on := 3, ground := Ground.textOnly Departure.lateStoresUnsure }, { on := 4, ground := Ground.phase }, { on := 5, ground := Ground.phase }], guard := none }) rfl (fun K hK => ?_) AllReadyM.nil
            have HK9 : Hid (∀ a w, _ → K a w) := hK
            clear hK
            go_simp
            refine HK9.out _ _ ⟨fun h => absurd h (by omega), ?_⟩
            clear HK9 K
            try simp only [Act.put, List.setIfInBounds_toArray, List.set_cons_zero, List.set_cons_succ]
            clear z0 y0 z1 y1 z2 y2 z3 y3 z4 y4
            obtain ⟨wx, hwx⟩ : ∃ wx, wx = put5 x11 b7 (.bool pf) (.string plo) (.string phi) (.int .i64 pr) (.slice c1p pn c1c) := ⟨_, rfl⟩
            have ht : Tn [b7] x11 wx := by rw [hwx]; exact (Tn.refl _ _).five (.inl (by simp)) _ _ _ _ _
            have hk7' : Bk wx b7 24 #[.bool pf, .string plo, .string phi, .int .i64 pr, .slice c1p pn c1c] := by rw [hwx]; exact Bk.five hk7 _ _ _ _ _
            have hk8' : Bk wx b8 24 zc := hk8.tn ht (by simpa using fun h => hne h.symm)
            have hs1' := hs1.page hk7 ht
            have hs2' := hs2.page hk7 ht
            unfold put5 at hwx
            rw [← hwx]
            clear hwx
            have z0 : wx.cell? ⟨b8, 0, none⟩ = some (.bool false) := hk8'.cell 0
            have y0 : wx.frozen? ⟨b8, 0, none⟩ = false := hk8'.frozen 0
            have z1 : wx.cell? ⟨b8, 1, none⟩ = some (.string ⟨#[]⟩) := hk8'.cell 1
            have y1 : wx.frozen? ⟨b8, 1, none⟩ = false := hk8'.frozen 1
            have z2 : wx.cell? ⟨b8, 2, none⟩ = some (.string ⟨#[]⟩) := hk8'.cell 2
            have y2 : wx.frozen? ⟨b8, 2, none⟩ = false := hk8'.frozen 2
            have z3 : wx.cell? ⟨b8, 3, none⟩ = some (.int .i64 0) := hk8'.cell 3
            have y3 : wx.frozen? ⟨b8, 3, none⟩ = false := hk8'.frozen 3
            have z4 : wx.cell? ⟨b8, 4, none⟩ = some (.slice none 0 0) := hk8'.cell 4
            have y4 : wx.frozen? ⟨b8, 4, none⟩ = false := hk8'.frozen 4
            refine wpAnyM_ready (rs := [7]) (by kernel_rfl) (by simp) ?_
            refine AllReadyM.cons (o := { dst := none, op := Op.store 24 (Operand.tmp 8) (Operand.tmp 24), type := 0, pos := _, after := #[{ on := 5, ground := Ground.data }, { on := 3, ground := Ground.data }, { on := 6, ground := Ground.chain }, { on := 0, ground := Ground.phase }, { on := 1, ground := Ground.phase }, { on := 2, ground := Ground.phase }, { on := 3, ground := Ground.phase }, { on := 4, ground := Ground.phase }, { on := 5, ground := Ground.phase }, { on := 6, ground := Ground.phase }], guard := none }) rfl (fun K hK => ?_) AllReadyM.nil
            have HK9 : Hid (∀ a w, _ → K a w) := hK
            clear hK
            go_simp
            refine HK9.out _ _ ⟨fun h => absurd h (by omega), ?_⟩
            clear HK9 K
            try simp only [Act.put, List.setIfInBounds_toArray, List.set_cons_zero, List.set_cons_succ]
            clear z0 y0 z1 y1 z2 y2 z3 y3 z4 y4
            obtain ⟨wy, hwy⟩ : ∃ wy, wy = put5 wx b8 (.bool qf) (.string qlo) (.string qhi) (.int .i64 qr) (.slice c2p qn c2c) := ⟨_, rfl⟩
            have ht2 : Tn [b8] wx wy := by rw [hwy]; exact (Tn.refl _ _).five (.inl (by simp)) _ _ _ _ _
            have hk8'' : Bk wy b8 24 #[.bool qf, .string qlo, .string qhi, .int .i64 qr, .slice c2p qn c2c] := by rw [hwy]; exact Bk.five hk8' _ _ _ _ _
            have hk7'' := hk7'.tn ht2 (by simpa using hne)
            have hs1'' := hs1'.page hk8' ht2
            have hs2'' := hs2'.page hk8' ht2
            unfold put5 at hwy
            rw [← hwy]
            clear hwy
            refine wpAnyM_done (by kernel_rfl) ?_ _
            have hbb : w0.heap.size ≤ b7 ∧ w0.heap.size ≤ b8 := ⟨hg7, hg8⟩
            exact ⟨rfl, b7, b8, c1p, c1c, c2p, c2c, rfl, (hB.trans (ht.below hB.size (by simpa using hbb.1))).trans (ht2.below (Nat.le_trans hB.size ht.size) (by simpa using hbb.2)), hk7'', hk8'', hs1''.ens, hs2''.ens⟩
      · have HK9 : Hid (∀ a w, _ → K a w) := hK
        clear hK
        go_simp
        have hB0 := hB
        have hal : Below x1.heap.size x1 (x1.alloc (.cells zc 24)) := (Below.refl _ _).alloc (Nat.le_refl _) _
        have hB := hB0.trans (hal.mono hB0.size)
        refine HK9.out _ _ ⟨fun _ => hB, ?_⟩
        clear HK9 K
        try simp only [Act.put, List.setIfInBounds_toArray, List.set_cons_zero, List.set_cons_succ]
        have hk8 := Bk.new x1 24 zc
        have hs1 := hs1.below hal (Nat.le_refl _)
        have hg8' := hB0.size
        obtain ⟨b8, hbe⟩ : ∃ b8, x1.heap.size = b8 := ⟨_, rfl⟩
        rw [hbe] at hk8
        have hg8 : w0.heap.size ≤ b8 := by rw [← hbe]; exact hg8'
        obtain ⟨x12, hWe⟩ : ∃ x12, x1.alloc (.cells zc 24) = x12 := ⟨_, rfl⟩
        try unfold zc at hWe
        have hB : Below w0.heap.size w0 x12 := by rw [← hWe]; exact hB
        have hk8 : Bk x12 b8 24 zc := by rw [← hWe]; exact hk8
        have hs1 : Seg x12 0 c1p pn c1c pl := by rw [← hWe]; exact hs1
        rw [hWe, hbe]
        clear hWe hbe hal hB0
        refine wpAnyM_ready (rs := [3, 4]) (by kernel_rfl) (by simp) ?_
        refine AllReadyM.cons (o := { dst := some 24, op := Op.call { callee := Callee.value (Operand.func 32), args := #[Operand.tmp 23], argTypes := #[24] }, type := 24, pos := _, after := #[{ on := 2, ground := Ground.data }, { on := 1, ground := Ground.chain }], guard := none }) rfl (fun K hK => ?_) (AllReadyM.cons (o := { dst := some 7, op := Op.alloc 24, type := 0, pos := _, after := #[], guard := none }) rfl (fun K hK => ?_) AllReadyM.nil)
        · have HK9 : Hid (∀ a w, _ → K a w) := hK
          clear hK
          go_simp
          refine (rclone_any qf qlo qhi qr qp qn qc ql _ HQ.out.lenq (HQ.out.ens.below (BW.out.trans (hB.mono BW.out.size)) (Nat.le_refl _)) (by omega) HQ.out.nil).mono ?_
          rintro x x13 ⟨c2p, c2c, rfl, ho, hb⟩
          have hB0 := hB
          have hB : Below w0.heap.size w0 x13 := hB0.trans (hb.mono hB0.size)
          try go_wp2_with fail
          refine HK9.out _ _ ⟨fun _ => hB, ?_⟩
          clear HK9 K
          try simp only [Act.put, List.setIfInBounds_toArray, List.set_cons_zero, List.set_cons_succ]
          have hk8 := hk8.below hb hk8.lt
          have hs1 := hs1.below hb (Nat.le_refl _)
          have hs2 := (ho.seg).mono (Nat.zero_le _)
          clear hB0 hb ho
          refine wpAnyM_ready (rs := [4]) (by kernel_rfl) (by simp) ?_
          refine AllReadyM.cons (o := { dst := some 7, op := Op.alloc 24, type := 0, pos := _, after := #[], guard := none }) rfl (fun K hK => ?_) AllReadyM.nil
          · have HK9 : Hid (∀ a w, _ → K a w) := hK
            clear hK
            go_simp
            have hB0 := hB
            have hal : Below x13.heap.size x13 (x13.alloc (.cells zc 24)) := (Below.refl _ _).alloc (Nat.le_refl _) _
            have hB := hB0.trans (hal.mono hB0.size)
            refine HK9.out _ _ ⟨fun _ => hB, ?_⟩
            clear HK9 K
            try simp only [Act.put, List.setIfInBounds_toArray, List.set_cons_zero, List.set_cons_succ]
            have hk7 := Bk.new x13 24 zc
            have hlt := hk8.lt
            have hk8 := hk8.alloc (.cells zc 24)
            have hs1 := hs1.below hal (Nat.le_refl _)
            have hs2 := hs2.below hal (Nat.le_refl _)
            have hg7' := hB0.size
            obtain ⟨b7, hbe⟩ : ∃ b7, x13.heap.size = b7 := ⟨_, rfl⟩
            rw [hbe] at hk7
            have hg7 : w0.heap.size ≤ b7 := by rw [← hbe]; exact hg7'
            have hne : b7 ≠ b8 := by rw [← hbe]; exact Nat.ne_of_gt hlt
            obtain ⟨x14, hWe⟩ : ∃ x14, x13.alloc (.cells zc 24) = x14 := ⟨_, rfl⟩
            try unfold zc at hWe
            have hB : Below w0.heap.size w0 x14 := by rw [← hWe]; exact hB
            have hk7 : Bk x14 b7 24 zc := by rw [← hWe]; exact hk7
            have hk8 : Bk x14 b8 24 zc := by rw [← hWe]; exact hk8
            have hs1 : Seg x14 0 c1p pn c1c pl := by rw [← hWe]; exact hs1
            have hs2 : Seg x14 0 c2p qn c2c ql := by rw [← hWe]; exact hs2
            rw [hWe, hbe]
            clear hWe hbe hal hB0 hlt
            have z0 : x14.cell? ⟨b7, 0, none⟩ = some (.bool false) := hk7.cell 0
            have y0 : x14.frozen? ⟨b7, 0, none⟩ = false := hk7.frozen 0
            have z1 : x14.cell? ⟨b7, 1, none⟩ = some (.string ⟨#[]⟩) := hk7.cell 1
            have y1 : x14.frozen? ⟨b7, 1, none⟩ = false := hk7.frozen 1
            have z2 : x14.cell? ⟨b7, 2, none⟩ = some (.string ⟨#[]⟩) := hk7.cell 2
            have y2 : x14.frozen? ⟨b7, 2, none⟩ = false := hk7.frozen 2
            have z3 : x14.cell? ⟨b7, 3, none⟩ = some (.int .i64 0) := hk7.cell 3
            have y3 : x14.frozen? ⟨b7, 3, none⟩ = false := hk7.frozen 3
            have z4 : x14.cell? ⟨b7, 4, none⟩ = some (.slice none 0 0) := hk7.cell 4
            have y4 : x14.frozen? ⟨b7, 4, none⟩ = false := hk7.frozen 4
            refine wpAnyM_ready (rs := [6]) (by kernel_rfl) (by simp) ?_
            refine AllReadyM.cons (o := { dst := none, op := Op.store 24 (Operand.tmp 7) (Operand.tmp 22), type := 0, pos := _, after := #[{ on := 4, ground := Ground.data }, { on := 1, ground := Ground.data }, { on := 3, ground := Ground.chain }, { on := 0, ground := Ground.phase }, { on := 1, ground := Ground.phase }, { on := 2, ground := Ground.textOnly Departure.lateStores }, { on := 3, ground := Ground.textOnly Departure.lateStoresUnsure }, { on := 4, ground := Ground.phase }, { on := 5, ground := Ground.phase }], guard := none }) rfl (fun K hK => ?_) AllReadyM.nil
            have HK9 : Hid (∀ a w, _ → K a w) := hK
            clear hK
            go_simp
            refine HK9.out _ _ ⟨fun h => absurd h (by omega), ?_⟩
            clear HK9 K
            try simp only [Act.put, List.setIfInBounds_toArray, List.set_cons_zero, List.set_cons_succ]
            clear z0 y0 z1 y1 z2 y2 z3 y3 z4 y4
            obtain ⟨wx, hwx⟩ : ∃ wx, wx = put5 x14 b7 (.bool pf) (.string plo) (.string phi) (.int .i64 pr) (.slice c1p pn c1c) := ⟨_, rfl⟩
            have ht : Tn [b7] x14 wx := by rw [hwx]; exact (Tn.refl _ _).five (.inl (by simp)) _ _ _ _ _
            have hk7' : Bk wx b7 24 #[.bool pf, .string plo, .string phi, .int .i64 pr, .slice c1p pn c1c] := by rw [hwx]; exact Bk.five hk7 _ _ _ _ _
            have hk8' : Bk wx b8 24 zc := hk8.tn ht (by simpa using fun h => hne h.symm)
            have hs1' := hs1.page hk7 ht
            have hs2' := hs2.page hk7 ht
            unfold put5 at hwx
            rw [← hwx]
            clear hwx
            have z0 : wx.cell? ⟨b8, 0, none⟩ = some (.bool false) := hk8'.cell 0
            have y0 : wx.frozen? ⟨b8, 0, none⟩ = false := hk8'.frozen 0
            have z1 : wx.cell? ⟨b8, 1, none⟩ = some (.string ⟨#[]⟩) := hk8'.cell 1
            have y1 : wx.frozen? ⟨b8, 1, none⟩ = false := hk8'.frozen 1
            have z2 : wx.cell? ⟨b8, 2, none⟩ = some (.string ⟨#[]⟩) := hk8'.cell 2
            have y2 : wx.frozen? ⟨b8, 2, none⟩ = false := hk8'.frozen 2
            have z3 : wx.cell? ⟨b8, 3, none⟩ = some (.int .i64 0) := hk8'.cell 3
            have y3 : wx.frozen? ⟨b8, 3, none⟩ = false := hk8'.frozen 3
            have z4 : wx.cell? ⟨b8, 4, none⟩ = some (.slice none 0 0) := hk8'.cell 4
            have y4 : wx.frozen? ⟨b8, 4, none⟩ = false := hk8'.frozen 4
            refine wpAnyM_ready (rs := [7]) (by kernel_rfl) (by simp) ?_
            refine AllReadyM.cons (o := { dst := none, op := Op.store 24 (Operand.tmp 8) (Operand.tmp 24), type := 0, pos := _, after := #[{ on := 5, ground := Ground.data }, { on := 3, ground := Ground.data }, { on := 6, ground := Ground.chain }, { on := 0, ground := Ground.phase }, { on := 1, ground := Ground.phase }, { on := 2, ground := Ground.phase }, { on := 3, ground := Ground.phase }, { on := 4, ground := Ground.phase }, { on := 5, ground := Ground.phase }, { on := 6, ground := Ground.phase }], guard := none }) rfl (fun K hK => ?_) AllReadyM.nil
            have HK9 : Hid (∀ a w, _ → K a w) := hK
            clear hK
            go_simp
            refine HK9.out _ _ ⟨fun h => absurd h (by omega), ?_⟩
            clear HK9 K
            try simp only [Act.put, List.setIfInBounds_toArray, List.set_cons_zero, List.set_cons_succ]
            clear z0 y0 z1 y1 z2 y2 z3 y3 z4 y4
            obtain ⟨wy, hwy⟩ : ∃ wy, wy = put5 wx b8 (.bool qf) (.string qlo) (.string qhi) (.int .i64 qr) (.slice c2p qn c2c) := ⟨_, rfl⟩
            have ht2 : Tn [b8] wx wy := by rw [hwy]; exact (Tn.refl _ _).five (.inl (by simp)) _ _ _ _ _
            have hk8'' : Bk wy b8 24 #[.bool qf, .string qlo, .string qhi, .int .i64 qr, .slice c2p qn c2c] := by rw [hwy]; exact Bk.five hk8' _ _ _ _ _
            have hk7'' := hk7'.tn ht2 (by simpa using hne)
            have hs1'' := hs1'.page hk8' ht2
            have hs2'' := hs2'.page hk8' ht2
            unfold put5 at hwy
            rw [← hwy]
            clear hwy
            refine wpAnyM_done (by kernel_rfl) ?_ _
            have hbb : w0.heap.size ≤ b7 ∧ w0.heap.size ≤ b8 := ⟨hg7, hg8⟩
            exact ⟨rfl, b7, b8, c1p, c1c, c2p, c2c, rfl, (hB.trans (ht.below hB.size (by simpa using hbb.1))).trans (ht2.below (Nat.le_trans hB.size ht.size) (by simpa using hbb.2)), hk7'', hk8'', hs1''.ens, hs2''.ens⟩
        · have HK9 : Hid (∀ a w, _ → K a w) := hK
          clear hK
          go_simp
          have hB0 := hB
          have hal : Below x12.heap.size x12 (x12.alloc (.cells zc 24)) := (Below.refl _ _).alloc (Nat.le_refl _) _
          have hB := hB0.trans (hal.mono hB0.size)
          refine HK9.out _ _ ⟨fun _ => hB, ?_⟩
          clear HK9 K
          try simp only [Act.put, List.setIfInBounds_toArray, List.set_cons_zero, List.set_cons_succ]
          have hk7 := Bk.new x12 24 zc
          have hlt := hk8.lt
          have hk8 := hk8.alloc (.cells zc 24)
          have hs1 := hs1.below hal (Nat.le_refl _)
          have hg7' := hB0.size
          obtain ⟨b7, hbe⟩ : ∃ b7, x12.heap.size = b7 := ⟨_, rfl⟩
          rw [hbe] at hk7
          have hg7 : w0.heap.size ≤ b7 := by rw [← hbe]; exact hg7'
          have hne : b7 ≠ b8 := by rw [← hbe]; exact Nat.ne_of_gt hlt
          obtain ⟨x15, hWe⟩ : ∃ x15, x12.alloc (.cells zc 24) = x15 := ⟨_, rfl⟩
          try unfold zc at hWe
          have hB : Below w0.heap.size w0 x15 := by rw [← hWe]; exact hB
          have hk7 : Bk x15 b7 24 zc := by rw [← hWe]; exact hk7
          have hk8 : Bk x15 b8 24 zc := by rw [← hWe]; exact hk8
          have hs1 : Seg x15 0 c1p pn c1c pl := by rw [← hWe]; exact hs1
          rw [hWe, hbe]
          clear hWe hbe hal hB0 hlt
          refine wpAnyM_ready (rs := [3]) (by kernel_rfl) (by simp) ?_
          refine AllReadyM.cons (o := { dst := some 24, op := Op.call { callee := Callee.value (Operand.func 32), args := #[Operand.tmp 23], argTypes := #[24] }, type := 24, pos := _, after := #[{ on := 2, ground := Ground.data }, { on := 1, ground := Ground.chain }], guard := none }) rfl (fun K hK => ?_) AllReadyM.nil
          · have HK9 : Hid (∀ a w, _ → K a w) := hK
            clear hK
            go_simp
            refine (rclone_any qf qlo qhi qr qp qn qc ql _ HQ.out.lenq (HQ.out.ens.below (BW.out.trans (hB.mono BW.out.size)) (Nat.le_refl _)) (by omega) HQ.out.nil).mono ?_
            rintro x x16 ⟨c2p, c2c, rfl, ho, hb⟩
            have hB0 := hB
            have hB : Below w0.heap.size w0 x16 := hB0.trans (hb.mono hB0.size)
            try go_wp2_with fail
            refine HK9.out _ _ ⟨fun _ => hB, ?_⟩
            clear HK9 K
            try simp only [Act.put, List.setIfInBounds_toArray, List.set_cons_zero, List.set_cons_succ]
            have hk7 := hk7.below hb hk7.lt
            have hk8 := hk8.below hb hk8.lt
            have hs1 := hs1.below hb (Nat.le_refl _)
            have hs2 := (ho.seg).mono (Nat.zero_le _)
            clear hB0 hb ho
            have z0 : x16.cell? ⟨b7, 0, none⟩ = some (.bool false) := hk7.cell 0
            have y0 : x16.frozen? ⟨b7, 0, none⟩ = false := hk7.frozen 0
            have z1 : x16.cell? ⟨b7, 1, none⟩ = some (.string ⟨#[]⟩) := hk7.cell 1
            have y1 : x16.frozen? ⟨b7, 1, none⟩ = false := hk7.frozen 1
            have z2 : x16.cell? ⟨b7, 2, none⟩ = some (.string ⟨#[]⟩) := hk7.cell 2
            have y2 : x16.frozen? ⟨b7, 2, none⟩ = false := hk7.frozen 2
            have z3 : x16.cell? ⟨b7, 3, none⟩ = some (.int .i64 0) := hk7.cell 3
            have y3 : x16.frozen? ⟨b7, 3, none⟩ = false := hk7.frozen 3
            have z4 : x16.cell? ⟨b7, 4, none⟩ = some (.slice none 0 0) := hk7.cell 4
            have y4 : x16.frozen? ⟨b7, 4, none⟩ = false := hk7.frozen 4
            refine wpAnyM_ready (rs := [6]) (by kernel_rfl) (by simp) ?_
            refine AllReadyM.cons (o := { dst := none, op := Op.store 24 (Operand.tmp 7) (Operand.tmp 22), type := 0, pos := _, after := #[{ on := 4, ground := Ground.data }, { on := 1, ground := Ground.data }, { on := 3, ground := Ground.chain }, { on := 0, ground := Ground.phase }, { on := 1, ground := Ground.phase }, { on := 2, ground := Ground.textOnly Departure.lateStores }, { on := 3, ground := Ground.textOnly Departure.lateStoresUnsure }, { on := 4, ground := Ground.phase }, { on := 5, ground := Ground.phase }], guard := none }) rfl (fun K hK => ?_) AllReadyM.nil
            have HK9 : Hid (∀ a w, _ → K a w) := hK
            clear hK
            go_simp
            refine HK9.out _ _ ⟨fun h => absurd h (by omega), ?_⟩
            clear HK9 K
            try simp only [Act.put, List.setIfInBounds_toArray, List.set_cons_zero, List.set_cons_succ]
            clear z0 y0 z1 y1 z2 y2 z3 y3 z4 y4
            obtain ⟨wx, hwx⟩ : ∃ wx, wx = put5 x16 b7 (.bool pf) (.string plo) (.string phi) (.int .i64 pr) (.slice c1p pn c1c) := ⟨_, rfl⟩
            have ht : Tn [b7] x16 wx := by rw [hwx]; exact (Tn.refl _ _).five (.inl (by simp)) _ _ _ _ _
            have hk7' : Bk wx b7 24 #[.bool pf, .string plo, .string phi, .int .i64 pr, .slice c1p pn c1c] := by rw [hwx]; exact Bk.five hk7 _ _ _ _ _
            have hk8' : Bk wx b8 24 zc := hk8.tn ht (by simpa using fun h => hne h.symm)
            have hs1' := hs1.page hk7 ht
            have hs2' := hs2.page hk7 ht
            unfold put5 at hwx
            rw [← hwx]
            clear hwx
            have z0 : wx.cell? ⟨b8, 0, none⟩ = some (.bool false) := hk8'.cell 0
            have y0 : wx.frozen? ⟨b8, 0, none⟩ = false := hk8'.frozen 0
            have z1 : wx.cell? ⟨b8, 1, none⟩ = some (.string ⟨#[]⟩) := hk8'.cell 1
            have y1 : wx.frozen? ⟨b8, 1, none⟩ = false := hk8'.frozen 1
            have z2 : wx.cell? ⟨b8, 2, none⟩ = some (.string ⟨#[]⟩) := hk8'.cell 2
            have y2 : wx.frozen? ⟨b8, 2, none⟩ = false := hk8'.frozen 2
            have z3 : wx.cell? ⟨b8, 3, none⟩ = some (.int .i64 0) := hk8'.cell 3
            have y3 : wx.frozen? ⟨b8, 3, none⟩ = false := hk8'.frozen 3
            have z4 : wx.cell? ⟨b8, 4, none⟩ = some (.slice none 0 0) := hk8'.cell 4
            have y4 : wx.frozen? ⟨b8, 4, none⟩ = false := hk8'.frozen 4
            refine wpAnyM_ready (rs := [7]) (by kernel_rfl) (by simp) ?_
            refine AllReadyM.cons (o := { dst := none, op := Op.store 24 (Operand.tmp 8) (Operand.tmp 24), type := 0, pos := _, after := #[{ on := 5, ground := Ground.data }, { on := 3, ground := Ground.data }, { on := 6, ground := Ground.chain }, { on := 0, ground := Ground.phase }, { on := 1, ground := Ground.phase }, { on := 2, ground := Ground.phase }, { on := 3, ground := Ground.phase }, { on := 4, ground := Ground.phase }, { on := 5, ground := Ground.phase }, { on := 6, ground := Ground.phase }], guard := none }) rfl (fun K hK => ?_) AllReadyM.nil
            have HK9 : Hid (∀ a w, _ → K a w) := hK
            clear hK
            go_simp
            refine HK9.out _ _ ⟨fun h => absurd h (by omega), ?_⟩
            clear HK9 K
            try simp only [Act.put, List.setIfInBounds_toArray, List.set_cons_zero, List.set_cons_succ]
            clear z0 y0 z1 y1 z2 y2 z3 y3 z4 y4
            obtain ⟨wy, hwy⟩ : ∃ wy, wy = put5 wx b8 (.bool qf) (.string qlo) (.string qhi) (.int .i64 qr) (.slice c2p qn c2c) := ⟨_, rfl⟩
            have ht2 : Tn [b8] wx wy := by rw [hwy]; exact (Tn.refl _ _).five (.inl (by simp)) _ _ _ _ _
            have hk8'' : Bk wy b8 24 #[.bool qf, .string qlo, .string qhi, .int .i64 qr, .slice c2p qn c2c] := by rw [hwy]; exact Bk.five hk8' _ _ _ _ _
            have hk7'' := hk7'.tn ht2 (by simpa using hne)
            have hs1'' := hs1'.page hk8' ht2
            have hs2'' := hs2'.page hk8' ht2
            unfold put5 at hwy
            rw [← hwy]
            clear hwy
            refine wpAnyM_done (by kernel_rfl) ?_ _
            have hbb : w0.heap.size ≤ b7 ∧ w0.heap.size ≤ b8 := ⟨hg7, hg8⟩
            exact ⟨rfl, b7, b8, c1p, c1c, c2p, c2c, rfl, (hB.trans (ht.below hB.size (by simpa using hbb.1))).trans (ht2.below (Nat.le_trans hB.size ht.size) (by simpa using hbb.2)), hk7'', hk8'', hs1''.ens, hs2''.ens⟩
    · have HK9 : Hid (∀ a w, _ → K a w) := hK
      clear hK
      go_simp
      have hB0 := hB
      have hal : Below wd.heap.size wd (wd.alloc (.cells zc 24)) := (Below.refl _ _).alloc (Nat.le_refl _) _
      have hB := hB0.trans (hal.mono hB0.size)
      refine HK9.out _ _ ⟨fun _ => hB, ?_⟩
      clear HK9 K
      try simp only [Act.put, List.setIfInBounds_toArray, List.set_cons_zero, List.set_cons_succ]
      have hk7 := Bk.new wd 24 zc
      have hg7' := hB0.size
      obtain ⟨b7, hbe⟩ : ∃ b7, wd.heap.size = b7 := ⟨_, rfl⟩
      rw [hbe] at hk7
      have hg7 : w0.heap.size ≤ b7 := by rw [← hbe]; exact hg7'
      obtain ⟨x17, hWe⟩ : ∃ x17, wd.alloc (.cells zc 24) = x17 := ⟨_, rfl⟩
      try unfold zc at hWe
      have hB : Below w0.heap.size w0 x17 := by rw [← hWe]; exact hB
      have hk7 : Bk x17 b7 24 zc := by rw [← hWe]; exact hk7
      rw [hWe, hbe]
      clear hWe hbe hal hB0
      refine wpAnyM_ready (rs := [1, 5]) (by kernel_rfl) (by simp) ?_
      refine AllReadyM.cons (o := { dst := some 22, op := Op.call { callee := Callee.value (Operand.func 32), args := #[Operand.tmp 21], argTypes := #[24] }, type := 24, pos := _, after := #[{ on := 0, ground := Ground.data }], guard := none }) rfl (fun K hK => ?_) (AllReadyM.cons (o := { dst := some 8, op := Op.alloc 24, type := 0, pos := _, after := #[], guard := none }) rfl (fun K hK => ?_) AllReadyM.nil)
      · have HK9 : Hid (∀ a w, _ → K a w) := hK
        clear hK
        go_simp
        refine (rclone_any pf plo phi pr pp pn pc pl _ HP.out.lenq (HP.out.ens.below (BW.out.trans (hB.mono BW.out.size)) (Nat.le_refl _)) (by omega) HP.out.nil).mono ?_
        rintro x x18 ⟨c1p, c1c, rfl, ho, hb⟩
        have hB0 := hB
        have hB : Below w0.heap.size w0 x18 := hB0.trans (hb.mono hB0.size)
        try go_wp2_with fail
        refine HK9.out _ _ ⟨fun _ => hB, ?_⟩
        clear HK9 K
        try simp only [Act.put, List.setIfInBounds_toArray, List.set_cons_zero, List.set_cons_succ]
        have hk7 := hk7.below hb hk7.lt
        have hs1 := (ho.seg).mono (Nat.zero_le _)
        clear hB0 hb ho
        refine wpAnyM_ready (rs := [3, 5]) (by kernel_rfl) (by simp) ?_
        refine AllReadyM.cons (o := { dst := some 24, op := Op.call { callee := Callee.value (Operand.func 32), args := #[Operand.tmp 23], argTypes := #[24] }, type := 24, pos := _, after := #[{ on := 2, ground := Ground.data }, { on := 1, ground := Ground.chain }], guard := none }) rfl (fun K hK => ?_) (AllReadyM.cons (o := { dst := some 8, op := Op.alloc 24, type := 0, pos := _, after := #[], guard := none }) rfl (fun K hK => ?_) AllReadyM.nil)
        · have HK9 : Hid (∀ a w, _ → K a w) := hK
          clear hK
          go_simp
          refine (rclone_any qf qlo qhi qr qp qn qc ql _ HQ.out.lenq (HQ.out.ens.below (BW.out.trans (hB.mono BW.out.size)) (Nat.le_refl _)) (by omega) HQ.out.nil).mono ?_
          rintro x x19 ⟨c2p, c2c, rfl, ho, hb⟩
          have hB0 := hB
          have hB : Below w0.heap.size w0 x19 := hB0.trans (hb.mono hB0.size)
          try go_wp2_with fail
          refine HK9.out _ _ ⟨fun _ => hB, ?_⟩
          clear HK9 K
          try simp only [Act.put, List.setIfInBounds_toArray, List.set_cons_zero, List.set_cons_succ]
          have hk7 := hk7.below hb hk7.lt
          have hs1 := hs1.below hb (Nat.le_refl _)
          have hs2 := (ho.seg).mono (Nat.zero_le _)
          clear hB0 hb ho
          refine wpAnyM_ready (rs := [5]) (by kernel_rfl) (by simp) ?_
          refine AllReadyM.cons (o := { dst := some 8, op := Op.alloc 24, type := 0, pos := _, after := #[], guard := none }) rfl (fun K hK => ?_) AllReadyM.nil
          · have HK9 : Hid (∀ a w, _ → K a w) := hK
            clear hK
            go_simp
            have hB0 := hB
            have hal : Below x19.heap.size x19 (x19.alloc (.cells zc 24)) := (Below.refl _ _).alloc (Nat.le_refl _) _
            have hB := hB0.trans (hal.mono hB0.size)
            refine HK9.out _ _ ⟨fun _ => hB, ?_⟩
            clear HK9 K
            try simp only [Act.put, List.setIfInBounds_toArray, List.set_cons_zero, List.set_cons_succ]
            have hk8 := Bk.new x19 24 zc
            have hlt := hk7.lt
            have hk7 := hk7.alloc (.cells zc 24)
            have hs1 := hs1.below hal (Nat.le_refl _)
            have hs2 := hs2.below hal (Nat.le_refl _)
            have hg8' := hB0.size
            obtain ⟨b8, hbe⟩ : ∃ b8, x19.heap.size = b8 := ⟨_, rfl⟩
            rw [hbe] at hk8
            have hg8 : w0.heap.size ≤ b8 := by rw [← hbe]; exact hg8'
            have hne : b7 ≠ b8 := by rw [← hbe]; exact Nat.ne_of_lt hlt
            obtain ⟨x20, hWe⟩ : ∃ x20, x19.alloc (.cells zc 24) = x20 := ⟨_, rfl⟩
            try unfold zc at hWe
            have hB : Below w0.heap.size w0 x20 := by rw [← hWe]; exact hB
            have hk8 : Bk x20 b8 24 zc := by rw [← hWe]; exact hk8
            have hk7 : Bk x20 b7 24 zc := by rw [← hWe]; exact hk7
            have hs1 : Seg x20 0 c1p pn c1c pl := by rw [← hWe]; exact hs1
            have hs2 : Seg x20 0 c2p qn c2c ql := by rw [← hWe]; exact hs2
            rw [hWe, hbe]
            clear hWe hbe hal hB0 hlt
            have z0 : x20.cell? ⟨b7, 0, none⟩ = some (.bool false) := hk7.cell 0
            have y0 : x20.frozen? ⟨b7, 0, none⟩ = false := hk7.frozen 0
            have z1 : x20.cell? ⟨b7, 1, none⟩ = some (.string ⟨#[]⟩) := hk7.cell 1
            have y1 : x20.frozen? ⟨b7, 1, none⟩ = false := hk7.frozen 1
            have z2 : x20.cell? ⟨b7, 2, none⟩ = some (.string ⟨#[]⟩) := hk7.cell 2
            have y2 : x20.frozen? ⟨b7, 2, none⟩ = false := hk7.frozen 2
            have z3 : x20.cell? ⟨b7, 3, none⟩ = some (.int .i64 0) := hk7.cell 3
            have y3 : x20.frozen? ⟨b7, 3, none⟩ = false := hk7.frozen 3
            have z4 : x20.cell? ⟨b7, 4, none⟩ = some (.slice none 0 0) := hk7.cell 4
            have y4 : x20.frozen? ⟨b7, 4, none⟩ = false := hk7.frozen 4
            refine wpAnyM_ready (rs := [6]) (by kernel_rfl) (by simp) ?_
            refine AllReadyM.cons (o := { dst := none, op := Op.store 24 (Operand.tmp 7) (Operand.tmp 22), type := 0, pos := _, after := #[{ on := 4, ground := Ground.data }, { on := 1, ground := Ground.data }, { on := 3, ground := Ground.chain }, { on := 0, ground := Ground.phase }, { on := 1, ground := Ground.phase }, { on := 2, ground := Ground.textOnly Departure.lateStores }, { on := 3, ground := Ground.textOnly Departure.lateStoresUnsure }, { on := 4, ground := Ground.phase }, { on := 5, ground := Ground.phase }], guard := none }) rfl (fun K hK => ?_) AllReadyM.nil
            have HK9 : Hid (∀ a w, _ → K a w) := hK
            clear hK
            go_simp
            refine HK9.out _ _ ⟨fun h => absurd h (by omega), ?_⟩
            clear HK9 K
            try simp only [Act.put, List.setIfInBounds_toArray, List.set_cons_zero, List.set_cons_succ]
            clear z0 y0 z1 y1 z2 y2 z3 y3 z4 y4
            obtain ⟨wx, hwx⟩ : ∃ wx, wx = put5 x20 b7 (.bool pf) (.string plo) (.string phi) (.int .i64 pr) (.slice c1p pn c1c) := ⟨_, rfl⟩
            have ht : Tn [b7] x20 wx := by rw [hwx]; exact (Tn.refl _ _).five (.inl (by simp)) _ _ _ _ _
            have hk7' : Bk wx b7 24 #[.bool pf, .string plo, .string phi, .int .i64 pr, .slice c1p pn c1c] := by rw [hwx]; exact Bk.five hk7 _ _ _ _ _
            have hk8' : Bk wx b8 24 zc := hk8.tn ht (by simpa using fun h => hne h.symm)
            have hs1' := hs1.page hk7 ht
            have hs2' := hs2.page hk7 ht
            unfold put5 at hwx
            rw [← hwx]
            clear hwx
            have z0 : wx.cell? ⟨b8, 0, none⟩ = some (.bool false) := hk8'.cell 0
            have y0 : wx.frozen? ⟨b8, 0, none⟩ = false := hk8'.frozen 0
            have z1 : wx.cell? ⟨b8, 1, none⟩ = some (.string ⟨#[]⟩) := hk8'.cell 1
            have y1 : wx.frozen? ⟨b8, 1, none⟩ = false := hk8'.frozen 1
            have z2 : wx.cell? ⟨b8, 2, none⟩ = some (.string ⟨#[]⟩) := hk8'.cell 2
            have y2 : wx.frozen? ⟨b8, 2, none⟩ = false := hk8'.frozen 2
            have z3 : wx.cell? ⟨b8, 3, none⟩ = some (.int .i64 0) := hk8'.cell 3
            have y3 : wx.frozen? ⟨b8, 3, none⟩ = false := hk8'.frozen 3
            have z4 : wx.cell? ⟨b8, 4, none⟩ = some (.slice none 0 0) := hk8'.cell 4
            have y4 : wx.frozen? ⟨b8, 4, none⟩ = false := hk8'.frozen 4
            refine wpAnyM_ready (rs := [7]) (by kernel_rfl) (by simp) ?_
            refine AllReadyM.cons (o := { dst := none, op := Op.store 24 (Operand.tmp 8) (Operand.tmp 24), type := 0, pos := _, after := #[{ on := 5, ground := Ground.data }, { on := 3, ground := Ground.data }, { on := 6, ground := Ground.chain }, { on := 0, ground := Ground.phase }, { on := 1, ground := Ground.phase }, { on := 2, ground := Ground.phase }, { on := 3, ground := Ground.phase }, { on := 4, ground := Ground.phase }, { on := 5, ground := Ground.phase }, { on := 6, ground := Ground.phase }], guard := none }) rfl (fun K hK => ?_) AllReadyM.nil
            have HK9 : Hid (∀ a w, _ → K a w) := hK
            clear hK
            go_simp
            refine HK9.out _ _ ⟨fun h => absurd h (by omega), ?_⟩
            clear HK9 K
            try simp only [Act.put, List.setIfInBounds_toArray, List.set_cons_zero, List.set_cons_succ]
            clear z0 y0 z1 y1 z2 y2 z3 y3 z4 y4
            obtain ⟨wy, hwy⟩ : ∃ wy, wy = put5 wx b8 (.bool qf) (.string qlo) (.string qhi) (.int .i64 qr) (.slice c2p qn c2c) := ⟨_, rfl⟩
            have ht2 : Tn [b8] wx wy := by rw [hwy]; exact (Tn.refl _ _).five (.inl (by simp)) _ _ _ _ _
            have hk8'' : Bk wy b8 24 #[.bool qf, .string qlo, .string qhi, .int .i64 qr, .slice c2p qn c2c] := by rw [hwy]; exact Bk.five hk8' _ _ _ _ _
            have hk7'' := hk7'.tn ht2 (by simpa using hne)
            have hs1'' := hs1'.page hk8' ht2
            have hs2'' := hs2'.page hk8' ht2
            unfold put5 at hwy
            rw [← hwy]
            clear hwy
            refine wpAnyM_done (by kernel_rfl) ?_ _
            have hbb : w0.heap.size ≤ b7 ∧ w0.heap.size ≤ b8 := ⟨hg7, hg8⟩
            exact ⟨rfl, b7, b8, c1p, c1c, c2p, c2c, rfl, (hB.trans (ht.below hB.size (by simpa using hbb.1))).trans (ht2.below (Nat.le_trans hB.size ht.size) (by simpa using hbb.2)), hk7'', hk8'', hs1''.ens, hs2''.ens⟩
        · have HK9 : Hid (∀ a w, _ → K a w) := hK
          clear hK
          go_simp
          have hB0 := hB
          have hal : Below x18.heap.size x18 (x18.alloc (.cells zc 24)) := (Below.refl _ _).alloc (Nat.le_refl _) _
          have hB := hB0.trans (hal.mono hB0.size)
          refine HK9.out _ _ ⟨fun _ => hB, ?_⟩
          clear HK9 K
          try simp only [Act.put, List.setIfInBounds_toArray, List.set_cons_zero, List.set_cons_succ]
          have hk8 := Bk.new x18 24 zc
          have hlt := hk7.lt
          have hk7 := hk7.alloc (.cells zc 24)
          have hs1 := hs1.below hal (Nat.le_refl _)
          have hg8' := hB0.size
          obtain ⟨b8, hbe⟩ : ∃ b8, x18.heap.size = b8 := ⟨_, rfl⟩
          rw [hbe] at hk8
          have hg8 : w0.heap.size ≤ b8 := by rw [← hbe]; exact hg8'
          have hne : b7 ≠ b8 := by rw [← hbe]; exact Nat.ne_of_lt hlt
          obtain ⟨x21, hWe⟩ : ∃ x21, x18.alloc (.cells zc 24) = x21 := ⟨_, rfl⟩
          try unfold zc at hWe
          have hB : Below w0.heap.size w0 x21 := by rw [← hWe]; exact hB
          have hk8 : Bk x21 b8 24 zc := by rw [← hWe]; exact hk8
          have hk7 : Bk x21 b7 24 zc := by rw [← hWe]; exact hk7
          have hs1 : Seg x21 0 c1p pn c1c pl := by rw [← hWe]; exact hs1
          rw [hWe, hbe]
          clear hWe hbe hal hB0 hlt
          refine wpAnyM_ready (rs := [3]) (by kernel_rfl) (by simp) ?_
          refine AllReadyM.cons (o := { dst := some 24, op := Op.call { callee := Callee.value (Operand.func 32), args := #[Operand.tmp 23], argTypes := #[24] }, type := 24, pos := _, after := #[{ on := 2, ground := Ground.data }, { on := 1, ground := Ground.chain }], guard := none }) rfl (fun K hK => ?_) AllReadyM.nil
          · have HK9 : Hid (∀ a w, _ → K a w) := hK
            clear hK
            go_simp
            refine (rclone_any qf qlo qhi qr qp qn qc ql _ HQ.out.lenq (HQ.out.ens.below (BW.out.trans (hB.mono BW.out.size)) (Nat.le_refl _)) (by omega) HQ.out.nil).mono ?_
            rintro x x22 ⟨c2p, c2c, rfl, ho, hb⟩
            have hB0 := hB
            have hB : Below w0.heap.size w0 x22 := hB0.trans (hb.mono hB0.size)
            try go_wp2_with fail
            refine HK9.out _ _ ⟨fun _ => hB, ?_⟩
            clear HK9 K
            try simp only [Act.put, List.setIfInBounds_toArray, List.set_cons_zero, List.set_cons_succ]
            have hk7 := hk7.below hb hk7.lt
            have hk8 := hk8.below hb hk8.lt
            have hs1 := hs1.below hb (Nat.le_refl _)
            have hs2 := (ho.seg).mono (Nat.zero_le _)
            clear hB0 hb ho
            have z0 : x22.cell? ⟨b7, 0, none⟩ = some (.bool false) := hk7.cell 0
            have y0 : x22.frozen? ⟨b7, 0, none⟩ = false := hk7.frozen 0
            have z1 : x22.cell? ⟨b7, 1, none⟩ = some (.string ⟨#[]⟩) := hk7.cell 1
            have y1 : x22.frozen? ⟨b7, 1, none⟩ = false := hk7.frozen 1
            have z2 : x22.cell? ⟨b7, 2, none⟩ = some (.string ⟨#[]⟩) := hk7.cell 2
            have y2 : x22.frozen? ⟨b7, 2, none⟩ = false := hk7.frozen 2
            have z3 : x22.cell? ⟨b7, 3, none⟩ = some (.int .i64 0) := hk7.cell 3
            have y3 : x22.frozen? ⟨b7, 3, none⟩ = false := hk7.frozen 3
            have z4 : x22.cell? ⟨b7, 4, none⟩ = some (.slice none 0 0) := hk7.cell 4
            have y4 : x22.frozen? ⟨b7, 4, none⟩ = false := hk7.frozen 4
            refine wpAnyM_ready (rs := [6]) (by kernel_rfl) (by simp) ?_
            refine AllReadyM.cons (o := { dst := none, op := Op.store 24 (Operand.tmp 7) (Operand.tmp 22), type := 0, pos := _, after := #[{ on := 4, ground := Ground.data }, { on := 1, ground := Ground.data }, { on := 3, ground := Ground.chain }, { on := 0, ground := Ground.phase }, { on := 1, ground := Ground.phase }, { on := 2, ground := Ground.textOnly Departure.lateStores }, { on := 3, ground := Ground.textOnly Departure.lateStoresUnsure }, { on := 4, ground := Ground.phase }, { on := 5, ground := Ground.phase }], guard := none }) rfl (fun K hK => ?_) AllReadyM.nil
            have HK9 : Hid (∀ a w, _ → K a w) := hK
            clear hK
            go_simp
            refine HK9.out _ _ ⟨fun h => absurd h (by omega), ?_⟩
            clear HK9 K
            try simp only [Act.put, List.setIfInBounds_toArray, List.set_cons_zero, List.set_cons_succ]
            clear z0 y0 z1 y1 z2 y2 z3 y3 z4 y4
            obtain ⟨wx, hwx⟩ : ∃ wx, wx = put5 x22 b7 (.bool pf) (.string plo) (.string phi) (.int .i64 pr) (.slice c1p pn c1c) := ⟨_, rfl⟩
            have ht : Tn [b7] x22 wx := by rw [hwx]; exact (Tn.refl _ _).five (.inl (by simp)) _ _ _ _ _
            have hk7' : Bk wx b7 24 #[.bool pf, .string plo, .string phi, .int .i64 pr, .slice c1p pn c1c] := by rw [hwx]; exact Bk.five hk7 _ _ _ _ _
            have hk8' : Bk wx b8 24 zc := hk8.tn ht (by simpa using fun h => hne h.symm)
            have hs1' := hs1.page hk7 ht
            have hs2' := hs2.page hk7 ht
            unfold put5 at hwx
            rw [← hwx]
            clear hwx
            have z0 : wx.cell? ⟨b8, 0, none⟩ = some (.bool false) := hk8'.cell 0
            have y0 : wx.frozen? ⟨b8, 0, none⟩ = false := hk8'.frozen 0
            have z1 : wx.cell? ⟨b8, 1, none⟩ = some (.string ⟨#[]⟩) := hk8'.cell 1
            have y1 : wx.frozen? ⟨b8, 1, none⟩ = false := hk8'.frozen 1
            have z2 : wx.cell? ⟨b8, 2, none⟩ = some (.string ⟨#[]⟩) := hk8'.cell 2
            have y2 : wx.frozen? ⟨b8, 2, none⟩ = false := hk8'.frozen 2
            have z3 : wx.cell? ⟨b8, 3, none⟩ = some (.int .i64 0) := hk8'.cell 3
            have y3 : wx.frozen? ⟨b8, 3, none⟩ = false := hk8'.frozen 3
            have z4 : wx.cell? ⟨b8, 4, none⟩ = some (.slice none 0 0) := hk8'.cell 4
            have y4 : wx.frozen? ⟨b8, 4, none⟩ = false := hk8'.frozen 4
            refine wpAnyM_ready (rs := [7]) (by kernel_rfl) (by simp) ?_
            refine AllReadyM.cons (o := { dst := none, op := Op.store 24 (Operand.tmp 8) (Operand.tmp 24), type := 0, pos := _, after := #[{ on := 5, ground := Ground.data }, { on := 3, ground := Ground.data }, { on := 6, ground := Ground.chain }, { on := 0, ground := Ground.phase }, { on := 1, ground := Ground.phase }, { on := 2, ground := Ground.phase }, { on := 3, ground := Ground.phase }, { on := 4, ground := Ground.phase }, { on := 5, ground := Ground.phase }, { on := 6, ground := Ground.phase }], guard := none }) rfl (fun K hK => ?_) AllReadyM.nil
            have HK9 : Hid (∀ a w, _ → K a w) := hK
            clear hK
            go_simp
            refine HK9.out _ _ ⟨fun h => absurd h (by omega), ?_⟩
            clear HK9 K
            try simp only [Act.put, List.setIfInBounds_toArray, List.set_cons_zero, List.set_cons_succ]
            clear z0 y0 z1 y1 z2 y2 z3 y3 z4 y4
            obtain ⟨wy, hwy⟩ : ∃ wy, wy = put5 wx b8 (.bool qf) (.string qlo) (.string qhi) (.int .i64 qr) (.slice c2p qn c2c) := ⟨_, rfl⟩
            have ht2 : Tn [b8] wx wy := by rw [hwy]; exact (Tn.refl _ _).five (.inl (by simp)) _ _ _ _ _
            have hk8'' : Bk wy b8 24 #[.bool qf, .string qlo, .string qhi, .int .i64 qr, .slice c2p qn c2c] := by rw [hwy]; exact Bk.five hk8' _ _ _ _ _
            have hk7'' := hk7'.tn ht2 (by simpa using hne)
            have hs1'' := hs1'.page hk8' ht2
            have hs2'' := hs2'.page hk8' ht2
            unfold put5 at hwy
            rw [← hwy]
            clear hwy
            refine wpAnyM_done (by kernel_rfl) ?_ _
            have hbb : w0.heap.size ≤ b7 ∧ w0.heap.size ≤ b8 := ⟨hg7, hg8⟩
            exact ⟨rfl, b7, b8, c1p, c1c, c2p, c2c, rfl, (hB.trans (ht.below hB.size (by simpa using hbb.1))).trans (ht2.below (Nat.le_trans hB.size ht.size) (by simpa using hbb.2)), hk7'', hk8'', hs1''.ens, hs2''.ens⟩
      · have HK9 : Hid (∀ a w, _ → K a w) := hK
        clear hK
        go_simp
        have hB0 := hB
        have hal : Below x17.heap.size x17 (x17.alloc (.cells zc 24)) := (Below.refl _ _).alloc (Nat.le_refl _) _
        have hB := hB0.trans (hal.mono hB0.size)
        refine HK9.out _ _ ⟨fun _ => hB, ?_⟩
        clear HK9 K
        try simp only [Act.put, List.setIfInBounds_toArray, List.set_cons_zero, List.set_cons_succ]
        have hk8 := Bk.new x17 24 zc
        have hlt := hk7.lt
        have hk7 := hk7.alloc (.cells zc 24)
        have hg8' := hB0.size
        obtain ⟨b8, hbe⟩ : ∃ b8, x17.heap.size = b8 := ⟨_, rfl⟩
        rw [hbe] at hk8
        have hg8 : w0.heap.size ≤ b8 := by rw [← hbe]; exact hg8'
        have hne : b7 ≠ b8 := by rw [← hbe]; exact Nat.ne_of_lt hlt
        obtain ⟨x23, hWe⟩ : ∃ x23, x17.alloc (.cells zc 24) = x23 := ⟨_, rfl⟩
        try unfold zc at hWe
        have hB : Below w0.heap.size w0 x23 := by rw [← hWe]; exact hB
        have hk8 : Bk x23 b8 24 zc := by rw [← hWe]; exact hk8
        have hk7 : Bk x23 b7 24 zc := by rw [← hWe]; exact hk7
        rw [hWe, hbe]
        clear hWe hbe hal hB0 hlt
        refine wpAnyM_ready (rs := [1]) (by kernel_rfl) (by simp) ?_
        refine AllReadyM.cons (o := { dst := some 22, op := Op.call { callee := Callee.value (Operand.func 32), args := #[Operand.tmp 21], argTypes := #[24] }, type := 24, pos := _, after := #[{ on := 0, ground := Ground.data }], guard := none }) rfl (fun K hK => ?_) AllReadyM.nil
        · have HK9 : Hid (∀ a w, _ → K a w) := hK
          clear hK
          go_simp
          refine (rclone_any pf plo phi pr pp pn pc pl _ HP.out.lenq (HP.out.ens.below (BW.out.trans (hB.mono BW.out.size)) (Nat.le_refl _)) (by omega) HP.out.nil).mono ?_
          rintro x x24 ⟨c1p, c1c, rfl, ho, hb⟩
          have hB0 := hB
          have hB : Below w0.heap.size w0 x24 := hB0.trans (hb.mono hB0.size)
          try go_wp2_with fail
          refine HK9.out _ _ ⟨fun _ => hB, ?_⟩
          clear HK9 K
          try simp only [Act.put, List.setIfInBounds_toArray, List.set_cons_zero, List.set_cons_succ]
          have hk7 := hk7.below hb hk7.lt
          have hk8 := hk8.below hb hk8.lt
          have hs1 := (ho.seg).mono (Nat.zero_le _)
          clear hB0 hb ho
          refine wpAnyM_ready (rs := [3]) (by kernel_rfl) (by simp) ?_
          refine AllReadyM.cons (o := { dst := some 24, op := Op.call { callee := Callee.value (Operand.func 32), args := #[Operand.tmp 23], argTypes := #[24] }, type := 24, pos := _, after := #[{ on := 2, ground := Ground.data }, { on := 1, ground := Ground.chain }], guard := none }) rfl (fun K hK => ?_) AllReadyM.nil
          · have HK9 : Hid (∀ a w, _ → K a w) := hK
            clear hK
            go_simp
            refine (rclone_any qf qlo qhi qr qp qn qc ql _ HQ.out.lenq (HQ.out.ens.below (BW.out.trans (hB.mono BW.out.size)) (Nat.le_refl _)) (by omega) HQ.out.nil).mono ?_
            rintro x x25 ⟨c2p, c2c, rfl, ho, hb⟩
            have hB0 := hB
            have hB : Below w0.heap.size w0 x25 := hB0.trans (hb.mono hB0.size)
            try go_wp2_with fail
            refine HK9.out _ _ ⟨fun _ => hB, ?_⟩
            clear HK9 K
            try simp only [Act.put, List.setIfInBounds_toArray, List.set_cons_zero, List.set_cons_succ]
            have hk7 := hk7.below hb hk7.lt
            have hk8 := hk8.below hb hk8.lt
            have hs1 := hs1.below hb (Nat.le_refl _)
            have hs2 := (ho.seg).mono (Nat.zero_le _)
            clear hB0 hb ho
            have z0 : x25.cell? ⟨b7, 0, none⟩ = some (.bool false) := hk7.cell 0
            have y0 : x25.frozen? ⟨b7, 0, none⟩ = false := hk7.frozen 0
            have z1 : x25.cell? ⟨b7, 1, none⟩ = some (.string ⟨#[]⟩) := hk7.cell 1
            have y1 : x25.frozen? ⟨b7, 1, none⟩ = false := hk7.frozen 1
            have z2 : x25.cell? ⟨b7, 2, none⟩ = some (.string ⟨#[]⟩) := hk7.cell 2
            have y2 : x25.frozen? ⟨b7, 2, none⟩ = false := hk7.frozen 2
            have z3 : x25.cell? ⟨b7, 3, none⟩ = some (.int .i64 0) := hk7.cell 3
            have y3 : x25.frozen? ⟨b7, 3, none⟩ = false := hk7.frozen 3
            have z4 : x25.cell? ⟨b7, 4, none⟩ = some (.slice none 0 0) := hk7.cell 4
            have y4 : x25.frozen? ⟨b7, 4, none⟩ = false := hk7.frozen 4
            refine wpAnyM_ready (rs := [6]) (by kernel_rfl) (by simp) ?_
            refine AllReadyM.cons (o := { dst := none, op := Op.store 24 (Operand.tmp 7) (Operand.tmp 22), type := 0, pos := _, after := #[{ on := 4, ground := Ground.data }, { on := 1, ground := Ground.data }, { on := 3, ground := Ground.chain }, { on := 0, ground := Ground.phase }, { on := 1, ground := Ground.phase }, { on := 2, ground := Ground.textOnly Departure.lateStores }, { on := 3, ground := Ground.textOnly Departure.lateStoresUnsure }, { on := 4, ground := Ground.phase }, { on := 5, ground := Ground.phase }], guard := none }) rfl (fun K hK => ?_) AllReadyM.nil
            have HK9 : Hid (∀ a w, _ → K a w) := hK
            clear hK
            go_simp
            refine HK9.out _ _ ⟨fun h => absurd h (by omega), ?_⟩
            clear HK9 K
            try simp only [Act.put, List.setIfInBounds_toArray, List.set_cons_zero, List.set_cons_succ]
            clear z0 y0 z1 y1 z2 y2 z3 y3 z4 y4
            obtain ⟨wx, hwx⟩ : ∃ wx, wx = put5 x25 b7 (.bool pf) (.string plo) (.string phi) (.int .i64 pr) (.slice c1p pn c1c) := ⟨_, rfl⟩
            have ht : Tn [b7] x25 wx := by rw [hwx]; exact (Tn.refl _ _).five (.inl (by simp)) _ _ _ _ _
            have hk7' : Bk wx b7 24 #[.bool pf, .string plo, .string phi, .int .i64 pr, .slice c1p pn c1c] := by rw [hwx]; exact Bk.five hk7 _ _ _ _ _
            have hk8' : Bk wx b8 24 zc := hk8.tn ht (by simpa using fun h => hne h.symm)
            have hs1' := hs1.page hk7 ht
            have hs2' := hs2.page hk7 ht
            unfold put5 at hwx
            rw [← hwx]
            clear hwx
            have z0 : wx.cell? ⟨b8, 0, none⟩ = some (.bool false) := hk8'.cell 0
            have y0 : wx.frozen? ⟨b8, 0, none⟩ = false := hk8'.frozen 0
            have z1 : wx.cell? ⟨b8, 1, none⟩ = some (.string ⟨#[]⟩) := hk8'.cell 1
            have y1 : wx.frozen? ⟨b8, 1, none⟩ = false := hk8'.frozen 1
            have z2 : wx.cell? ⟨b8, 2, none⟩ = some (.string ⟨#[]⟩) := hk8'.cell 2
            have y2 : wx.frozen? ⟨b8, 2, none⟩ = false := hk8'.frozen 2
            have z3 : wx.cell? ⟨b8, 3, none⟩ = some (.int .i64 0) := hk8'.cell 3
            have y3 : wx.frozen? ⟨b8, 3, none⟩ = false := hk8'.frozen 3
            have z4 : wx.cell? ⟨b8, 4, none⟩ = some (.slice none 0 0) := hk8'.cell 4
            have y4 : wx.frozen? ⟨b8, 4, none⟩ = false := hk8'.frozen 4
            refine wpAnyM_ready (rs := [7]) (by kernel_rfl) (by simp) ?_
            refine AllReadyM.cons (o := { dst := none, op := Op.store 24 (Operand.tmp 8) (Operand.tmp 24), type := 0, pos := _, after := #[{ on := 5, ground := Ground.data }, { on := 3, ground := Ground.data }, { on := 6, ground := Ground.chain }, { on := 0, ground := Ground.phase }, { on := 1, ground := Ground.phase }, { on := 2, ground := Ground.phase }, { on := 3, ground := Ground.phase }, { on := 4, ground := Ground.phase }, { on := 5, ground := Ground.phase }, { on := 6, ground := Ground.phase }], guard := none }) rfl (fun K hK => ?_) AllReadyM.nil
            have HK9 : Hid (∀ a w, _ → K a w) := hK
            clear hK
            go_simp
            refine HK9.out _ _ ⟨fun h => absurd h (by omega), ?_⟩
            clear HK9 K
            try simp only [Act.put, List.setIfInBounds_toArray, List.set_cons_zero, List.set_cons_succ]
            clear z0 y0 z1 y1 z2 y2 z3 y3 z4 y4
            obtain ⟨wy, hwy⟩ : ∃ wy, wy = put5 wx b8 (.bool qf) (.string qlo) (.string qhi) (.int .i64 qr) (.slice c2p qn c2c) := ⟨_, rfl⟩
            have ht2 : Tn [b8] wx wy := by rw [hwy]; exact (Tn.refl _ _).five (.inl (by simp)) _ _ _ _ _
            have hk8'' : Bk wy b8 24 #[.bool qf, .string qlo, .string qhi, .int .i64 qr, .slice c2p qn c2c] := by rw [hwy]; exact Bk.five hk8' _ _ _ _ _
            have hk7'' := hk7'.tn ht2 (by simpa using hne)
            have hs1'' := hs1'.page hk8' ht2
            have hs2'' := hs2'.page hk8' ht2
            unfold put5 at hwy
            rw [← hwy]
            clear hwy
            refine wpAnyM_done (by kernel_rfl) ?_ _
            have hbb : w0.heap.size ≤ b7 ∧ w0.heap.size ≤ b8 := ⟨hg7, hg8⟩
            exact ⟨rfl, b7, b8, c1p, c1c, c2p, c2c, rfl, (hB.trans (ht.below hB.size (by simpa using hbb.1))).trans (ht2.below (Nat.le_trans hB.size ht.size) (by simpa using hbb.2)), hk7'', hk8'', hs1''.ens, hs2''.ens⟩
    · have HK9 : Hid (∀ a w, _ → K a w) := hK
      clear hK
      go_simp
      have hB0 := hB
      have hal : Below wd.heap.size wd (wd.alloc (.cells zc 24)) := (Below.refl _ _).alloc (Nat.le_refl _) _
      have hB := hB0.trans (hal.mono hB0.size)
      refine HK9.out _ _ ⟨fun _ => hB, ?_⟩
      clear HK9 K
      try simp only [Act.put, List.setIfInBounds_toArray, List.set_cons_zero, List.set_cons_succ]
      have hk8 := Bk.new wd 24 zc
      have hg8' := hB0.size
      obtain ⟨b8, hbe⟩ : ∃ b8, wd.heap.size = b8 := ⟨_, rfl⟩
      rw [hbe] at hk8
      have hg8 : w0.heap.size ≤ b8 := by rw [← hbe]; exact hg8'
      obtain ⟨x26, hWe⟩ : ∃ x26, wd.alloc (.cells zc 24) = x26 := ⟨_, rfl⟩
      try unfold zc at hWe
      have hB : Below w0.heap.size w0 x26 := by rw [← hWe]; exact hB
      have hk8 : Bk x26 b8 24 zc := by rw [← hWe]; exact hk8
      rw [hWe, hbe]
      clear hWe hbe hal hB0
      refine wpAnyM_ready (rs := [1, 4]) (by kernel_rfl) (by simp) ?_
      refine AllReadyM.cons (o := { dst := some 22, op := Op.call { callee := Callee.value (Operand.func 32), args := #[Operand.tmp 21], argTypes := #[24] }, type := 24, pos := _, after := #[{ on := 0, ground := Ground.data }], guard := none }) rfl (fun K hK => ?_) (AllReadyM.cons (o := { dst := some 7, op := Op.alloc 24, type := 0, pos := _, after := #[], guard := none }) rfl (fun K hK => ?_) AllReadyM.nil)
      · have HK9 : Hid (∀ a w, _ → K a w) := hK
        clear hK
        go_simp
        refine (rclone_any pf plo phi pr pp pn pc pl _ HP.out.lenq (HP.out.ens.below (BW.out.trans (hB.mono BW.out.size)) (Nat.le_refl _)) (by omega) HP.out.nil).mono ?_
        rintro x x27 ⟨c1p, c1c, rfl, ho, hb⟩
        have hB0 := hB
        have hB : Below w0.heap.size w0 x27 := hB0.trans (hb.mono hB0.size)
        try go_wp2_with fail
        refine HK9.out _ _ ⟨fun _ => hB, ?_⟩
        clear HK9 K
        try simp only [Act.put, List.setIfInBounds_toArray, List.set_cons_zero, List.set_cons_succ]
        have hk8 := hk8.below hb hk8.lt
        have hs1 := (ho.seg).mono (Nat.zero_le _)
        clear hB0 hb ho
        refine wpAnyM_ready (rs := [3, 4]) (by kernel_rfl) (by simp) ?_
        refine AllReadyM.cons (o := { dst := some 24, op := Op.call { callee := Callee.value (Operand.func 32), args := #[Operand.tmp 23], argTypes := #[24] }, type := 24, pos := _, after := #[{ on := 2, ground := Ground.data }, { on := 1, ground := Ground.chain }], guard := none }) rfl (fun K hK => ?_) (AllReadyM.cons (o := { dst := some 7, op := Op.alloc 24, type := 0, pos := _, after := #[], guard := none }) rfl (fun K hK => ?_) AllReadyM.nil)
        · have HK9 : Hid (∀ a w, _ → K a w) := hK
          clear hK
          go_simp
          refine (rclone_any qf qlo qhi qr qp qn qc ql _ HQ.out.lenq (HQ.out.ens.below (BW.out.trans (hB.mono BW.out.size)) (Nat.le_refl _)) (by omega) HQ.out.nil).mono ?_
          rintro x x28 ⟨c2p, c2c, rfl, ho, hb⟩
          have hB0 := hB
          have hB : Below w0.heap.size w0 x28 := hB0.trans (hb.mono hB0.size)
          try go_wp2_with fail
          refine HK9.out _ _ ⟨fun _ => hB, ?_⟩
          clear HK9 K
          try simp only [Act.put, List.setIfInBounds_toArray, List.set_cons_zero, List.set_cons_succ]
          have hk8 := hk8.below hb hk8.lt
          have hs1 := hs1.below hb (Nat.le_refl _)
          have hs2 := (ho.seg).mono (Nat.zero_le _)
          clear hB0 hb ho
          refine wpAnyM_ready (rs := [4]) (by kernel_rfl) (by simp) ?_
          refine AllReadyM.cons (o := { dst := some 7, op := Op.alloc 24, type := 0, pos := _, after := #[], guard := none }) rfl (fun K hK => ?_) AllReadyM.nil
          · have HK9 : Hid (∀ a w, _ → K a w) := hK
            clear hK
            go_simp
            have hB0 := hB
            have hal : Below x28.heap.size x28 (x28.alloc (.cells zc 24)) := (Below.refl _ _).alloc (Nat.le_refl _) _
            have hB := hB0.trans (hal.mono hB0.size)
            refine HK9.out _ _ ⟨fun _ => hB, ?_⟩
            clear HK9 K
            try simp only [Act.put, List.setIfInBounds_toArray, List.set_cons_zero, List.set_cons_succ]
            have hk7 := Bk.new x28 24 zc
            have hlt := hk8.lt
            have hk8 := hk8.alloc (.cells zc 24)
            have hs1 := hs1.below hal (Nat.le_refl _)
            have hs2 := hs2.below hal (Nat.le_refl _)
            have hg7' := hB0.size
            obtain ⟨b7, hbe⟩ : ∃ b7, x28.heap.size = b7 := ⟨_, rfl⟩
            rw [hbe] at hk7
            have hg7 : w0.heap.size ≤ b7 := by rw [← hbe]; exact hg7'
            have hne : b7 ≠ b8 := by rw [← hbe]; exact Nat.ne_of_gt hlt
            obtain ⟨x29, hWe⟩ : ∃ x29, x28.alloc (.cells zc 24) = x29 := ⟨_, rfl⟩
            try unfold zc at hWe
            have hB : Below w0.heap.size w0 x29 := by rw [← hWe]; exact hB
            have hk7 : Bk x29 b7 24 zc := by rw [← hWe]; exact hk7
            have hk8 : Bk x29 b8 24 zc := by rw [← hWe]; exact hk8
            have hs1 : Seg x29 0 c1p pn c1c pl := by rw [← hWe]; exact hs1
            have hs2 : Seg x29 0 c2p qn c2c ql := by rw [← hWe]; exact hs2
            rw [hWe, hbe]
            clear hWe hbe hal hB0 hlt
            have z0 : x29.cell? ⟨b7, 0, none⟩ = some (.bool false) := hk7.cell 0
            have y0 : x29.frozen? ⟨b7, 0, none⟩ = false := hk7.frozen 0
            have z1 : x29.cell? ⟨b7, 1, none⟩ = some (.string ⟨#[]⟩) := hk7.cell 1
            have y1 : x29.frozen? ⟨b7, 1, none⟩ = false := hk7.frozen 1
            have z2 : x29.cell? ⟨b7, 2, none⟩ = some (.string ⟨#[]⟩) := hk7.cell 2
            have y2 : x29.frozen? ⟨b7, 2, none⟩ = false := hk7.frozen 2
            have z3 : x29.cell? ⟨b7, 3, none⟩ = some (.int .i64 0) := hk7.cell 3
            have y3 : x29.frozen? ⟨b7, 3, none⟩ = false := hk7.frozen 3
            have z4 : x29.cell? ⟨b7, 4, none⟩ = some (.slice none 0 0) := hk7.cell 4
            have y4 : x29.frozen? ⟨b7, 4, none⟩ = false := hk7.frozen 4
            refine wpAnyM_ready (rs := [6]) (by kernel_rfl) (by simp) ?_
            refine AllReadyM.cons (o := { dst := none, op := Op.store 24 (Operand.tmp 7) (Operand.tmp 22), type := 0, pos := _, after := #[{ on := 4, ground := Ground.data }, { on := 1, ground := Ground.data }, { on := 3, ground := Ground.chain }, { on := 0, ground := Ground.phase }, { on := 1, ground := Ground.phase }, { on := 2, ground := Ground.textOnly Departure.lateStores }, { on := 3, ground := Ground.textOnly Departure.lateStoresUnsure }, { on := 4, ground := Ground.phase }, { on := 5, ground := Ground.phase }], guard := none }) rfl (fun K hK => ?_) AllReadyM.nil
            have HK9 : Hid (∀ a w, _ → K a w) := hK
            clear hK
            go_simp
            refine HK9.out _ _ ⟨fun h => absurd h (by omega), ?_⟩
            clear HK9 K
            try simp only [Act.put, List.setIfInBounds_toArray, List.set_cons_zero, List.set_cons_succ]
            clear z0 y0 z1 y1 z2 y2 z3 y3 z4 y4
            obtain ⟨wx, hwx⟩ : ∃ wx, wx = put5 x29 b7 (.bool pf) (.string plo) (.string phi) (.int .i64 pr) (.slice c1p pn c1c) := ⟨_, rfl⟩
            have ht : Tn [b7] x29 wx := by rw [hwx]; exact (Tn.refl _ _).five (.inl (by simp)) _ _ _ _ _
            have hk7' : Bk wx b7 24 #[.bool pf, .string plo, .string phi, .int .i64 pr, .slice c1p pn c1c] := by rw [hwx]; exact Bk.five hk7 _ _ _ _ _
            have hk8' : Bk wx b8 24 zc := hk8.tn ht (by simpa using fun h => hne h.symm)
            have hs1' := hs1.page hk7 ht
            have hs2' := hs2.page hk7 ht
            unfold put5 at hwx
            rw [← hwx]
            clear hwx
            have z0 : wx.cell? ⟨b8, 0, none⟩ = some (.bool false) := hk8'.cell 0
            have y0 : wx.frozen? ⟨b8, 0, none⟩ = false := hk8'.frozen 0
            have z1 : wx.cell? ⟨b8, 1, none⟩ = some (.string ⟨#[]⟩) := hk8'.cell 1
            have y1 : wx.frozen? ⟨b8, 1, none⟩ = false := hk8'.frozen 1
            have z2 : wx.cell? ⟨b8, 2, none⟩ = some (.string ⟨#[]⟩) := hk8'.cell 2
            have y2 : wx.frozen? ⟨b8, 2, none⟩ = false := hk8'.frozen 2
            have z3 : wx.cell? ⟨b8, 3, none⟩ = some (.int .i64 0) := hk8'.cell 3
            have y3 : wx.frozen? ⟨b8, 3, none⟩ = false := hk8'.frozen 3
            have z4 : wx.cell? ⟨b8, 4, none⟩ = some (.slice none 0 0) := hk8'.cell 4
            have y4 : wx.frozen? ⟨b8, 4, none⟩ = false := hk8'.frozen 4
            refine wpAnyM_ready (rs := [7]) (by kernel_rfl) (by simp) ?_
            refine AllReadyM.cons (o := { dst := none, op := Op.store 24 (Operand.tmp 8) (Operand.tmp 24), type := 0, pos := _, after := #[{ on := 5, ground := Ground.data }, { on := 3, ground := Ground.data }, { on := 6, ground := Ground.chain }, { on := 0, ground := Ground.phase }, { on := 1, ground := Ground.phase }, { on := 2, ground := Ground.phase }, { on := 3, ground := Ground.phase }, { on := 4, ground := Ground.phase }, { on := 5, ground := Ground.phase }, { on := 6, ground := Ground.phase }], guard := none }) rfl (fun K hK => ?_) AllReadyM.nil
            have HK9 : Hid (∀ a w, _ → K a w) := hK
            clear hK
            go_simp
            refine HK9.out _ _ ⟨fun h => absurd h (by omega), ?_⟩
            clear HK9 K
            try simp only [Act.put, List.setIfInBounds_toArray, List.set_cons_zero, List.set_cons_succ]
            clear z0 y0 z1 y1 z2 y2 z3 y3 z4 y4
            obtain ⟨wy, hwy⟩ : ∃ wy, wy = put5 wx b8 (.bool qf) (.string qlo) (.string qhi) (.int .i64 qr) (.slice c2p qn c2c) := ⟨_, rfl⟩
            have ht2 : Tn [b8] wx wy := by rw [hwy]; exact (Tn.refl _ _).five (.inl (by simp)) _ _ _ _ _
            have hk8'' : Bk wy b8 24 #[.bool qf, .string qlo, .string qhi, .int .i64 qr, .slice c2p qn c2c] := by rw [hwy]; exact Bk.five hk8' _ _ _ _ _
            have hk7'' := hk7'.tn ht2 (by simpa using hne)
            have hs1'' := hs1'.page hk8' ht2
            have hs2'' := hs2'.page hk8' ht2
            unfold put5 at hwy
            rw [← hwy]
            clear hwy
            refine wpAnyM_done (by kernel_rfl) ?_ _
            have hbb : w0.heap.size ≤ b7 ∧ w0.heap.size ≤ b8 := ⟨hg7, hg8⟩
            exact ⟨rfl, b7, b8, c1p, c1c, c2p, c2c, rfl, (hB.trans (ht.below hB.size (by simpa using hbb.1))).trans (ht2.below (Nat.le_trans hB.size ht.size) (by simpa using hbb.2)), hk7'', hk8'', hs1''.ens, hs2''.ens⟩
        · have HK9 : Hid (∀ a w, _ → K a w) := hK
          clear hK
          go_simp
          have hB0 := hB
          have hal : Below x27.heap.size x27 (x27.alloc (.cells zc 24)) := (Below.refl _ _).alloc (Nat.le_refl _) _
          have hB := hB0.trans (hal.mono hB0.size)
          refine HK9.out _ _ ⟨fun _ => hB, ?_⟩
          clear HK9 K
          try simp only [Act.put, List.setIfInBounds_toArray, List.set_cons_zero, List.set_cons_succ]
          have hk7 := Bk.new x27 24 zc
          have hlt := hk8.lt
          have hk8 := hk8.alloc (.cells zc 24)
          have hs1 := hs1.below hal (Nat.le_refl _)
          have hg7' := hB0.size
          obtain ⟨b7, hbe⟩ : ∃ b7, x27.heap.size = b7 := ⟨_, rfl⟩
          rw [hbe] at hk7
          have hg7 : w0.heap.size ≤ b7 := by rw [← hbe]; exact hg7'
          have hne : b7 ≠ b8 := by rw [← hbe]; exact Nat.ne_of_gt hlt
          obtain ⟨x30, hWe⟩ : ∃ x30, x27.alloc (.cells zc 24) = x30 := ⟨_, rfl⟩
          try unfold zc at hWe
          have hB : Below w0.heap.size w0 x30 := by rw [← hWe]; exact hB
          have hk7 : Bk x30 b7 24 zc := by rw [← hWe]; exact hk7
          have hk8 : Bk x30 b8 24 zc := by rw [← hWe]; exact hk8
          have hs1 : Seg x30 0 c1p pn c1c pl := by rw [← hWe]; exact hs1
          rw [hWe, hbe]
          clear hWe hbe hal hB0 hlt
          refine wpAnyM_ready (rs := [3]) (by kernel_rfl) (by simp) ?_
          refine AllReadyM.cons (o := { dst := some 24, op := Op.call { callee := Callee.value (Operand.func 32), args := #[Operand.tmp 23], argTypes := #[24] }, type := 24, pos := _, after := #[{ on := 2, ground := Ground.data }, { on := 1, ground := Ground.chain }], guard := none }) rfl (fun K hK => ?_) AllReadyM.nil
          · have HK9 : Hid (∀ a w, _ → K a w) := hK
            clear hK
            go_simp
            refine (rclone_any qf qlo qhi qr qp qn qc ql _ HQ.out.lenq (HQ.out.ens.below (BW.out.trans (hB.mono BW.out.size)) (Nat.le_refl _)) (by omega) HQ.out.nil).mono ?_
            rintro x x31 ⟨c2p, c2c, rfl, ho, hb⟩
            have hB0 := hB
            have hB : Below w0.heap.size w0 x31 := hB0.trans (hb.mono hB0.size)
            try go_wp2_with fail
            refine HK9.out _ _ ⟨fun _ => hB, ?_⟩
            clear HK9 K
            try simp only [Act.put, List.setIfInBounds_toArray, List.set_cons_zero, List.set_cons_succ]
            have hk7 := hk7.below hb hk7.lt
            have hk8 := hk8.below hb hk8.lt
            have hs1 := hs1.below hb (Nat.le_refl _)
            have hs2 := (ho.seg).mono (Nat.zero_le _)
            clear hB0 hb ho
            have z0 : x31.cell? ⟨b7, 0, none⟩ = some (.bool false) := hk7.cell 0
            have y0 : x31.frozen? ⟨b7, 0, none⟩ = false := hk7.frozen 0
            have z1 : x31.cell? ⟨b7, 1, none⟩ = some (.string ⟨#[]⟩) := hk7.cell 1
            have y1 : x31.frozen? ⟨b7, 1, none⟩ = false := hk7.frozen 1
            have z2 : x31.cell? ⟨b7, 2, none⟩ = some (.string ⟨#[]⟩) := hk7.cell 2
            have y2 : x31.frozen? ⟨b7, 2, none⟩ = false := hk7.frozen 2
            have z3 : x31.cell? ⟨b7, 3, none⟩ = some (.int .i64 0) := hk7.cell 3
            have y3 : x31.frozen? ⟨b7, 3, none⟩ = false := hk7.frozen 3
            have z4 : x31.cell? ⟨b7, 4, none⟩ = some (.slice none 0 0) := hk7.cell 4
            have y4 : x31.frozen? ⟨b7, 4, none⟩ = false := hk7.frozen 4
            refine wpAnyM_ready (rs := [6]) (by kernel_rfl) (by simp) ?_
            refine AllReadyM.cons (o := { dst := none, op := Op.store 24 (Operand.tmp 7) (Operand.tmp 22), type := 0, pos := _, after := #[{ on := 4, ground := Ground.data }, { on := 1, ground := Ground.data }, { on := 3, ground := Ground.chain }, { on := 0, ground := Ground.phase }, { on := 1, ground := Ground.phase }, { on := 2, ground := Ground.textOnly Departure.lateStores }, { on := 3, ground := Ground.textOnly Departure.lateStoresUnsure }, { on := 4, ground := Ground.phase }, { on := 5, ground := Ground.phase }], guard := none }) rfl (fun K hK => ?_) AllReadyM.nil
            have HK9 : Hid (∀ a w, _ → K a w) := hK
            clear hK
            go_simp
            refine HK9.out _ _ ⟨fun h => absurd h (by omega), ?_⟩
            clear HK9 K
            try simp only [Act.put, List.setIfInBounds_toArray, List.set_cons_zero, List.set_cons_succ]
            clear z0 y0 z1 y1 z2 y2 z3 y3 z4 y4
            obtain ⟨wx, hwx⟩ : ∃ wx, wx = put5 x31 b7 (.bool pf) (.string plo) (.string phi) (.int .i64 pr) (.slice c1p pn c1c) := ⟨_, rfl⟩
            have ht : Tn [b7] x31 wx := by rw [hwx]; exact (Tn.refl _ _).five (.inl (by simp)) _ _ _ _ _
            have hk7' : Bk wx b7 24 #[.bool pf, .string plo, .string phi, .int .i64 pr, .slice c1p pn c1c] := by rw [hwx]; exact Bk.five hk7 _ _ _ _ _
            have hk8' : Bk wx b8 24 zc := hk8.tn ht (by simpa using fun h => hne h.symm)
            have hs1' := hs1.page hk7 ht
            have hs2' := hs2.page hk7 ht
            unfold put5 at hwx
            rw [← hwx]
            clear hwx
            have z0 : wx.cell? ⟨b8, 0, none⟩ = some (.bool false) := hk8'.cell 0
            have y0 : wx.frozen? ⟨b8, 0, none⟩ = false := hk8'.frozen 0
            have z1 : wx.cell? ⟨b8, 1, none⟩ = some (.string ⟨#[]⟩) := hk8'.cell 1
            have y1 : wx.frozen? ⟨b8, 1, none⟩ = false := hk8'.frozen 1
            have z2 : wx.cell? ⟨b8, 2, none⟩ = some (.string ⟨#[]⟩) := hk8'.cell 2
            have y2 : wx.frozen? ⟨b8, 2, none⟩ = false := hk8'.frozen 2
            have z3 : wx.cell? ⟨b8, 3, none⟩ = some (.int .i64 0) := hk8'.cell 3
            have y3 : wx.frozen? ⟨b8, 3, none⟩ = false := hk8'.frozen 3
            have z4 : wx.cell? ⟨b8, 4, none⟩ = some (.slice none 0 0) := hk8'.cell 4
            have y4 : wx.frozen? ⟨b8, 4, none⟩ = false := hk8'.frozen 4
            refine wpAnyM_ready (rs := [7]) (by kernel_rfl) (by simp) ?_
            refine AllReadyM.cons (o := { dst := none, op := Op.store 24 (Operand.tmp 8) (Operand.tmp 24), type := 0, pos := _, after := #[{ on := 5, ground := Ground.data }, { on := 3, ground := Ground.data }, { on := 6, ground := Ground.chain }, { on := 0, ground := Ground.phase }, { on := 1, ground := Ground.phase }, { on := 2, ground := Ground.phase }, { on := 3, ground := Ground.phase }, { on := 4, ground := Ground.phase }, { on := 5, ground := Ground.phase }, { on := 6, ground := Ground.phase }], guard := none }) rfl (fun K hK => ?_) AllReadyM.nil
            have HK9 : Hid (∀ a w, _ → K a w) := hK
            clear hK
            go_simp
            refine HK9.out _ _ ⟨fun h => absurd h (by omega), ?_⟩
            clear HK9 K
            try simp only [Act.put, List.setIfInBounds_toArray, List.set_cons_zero, List.set_cons_succ]
            clear z0 y0 z1 y1 z2 y2 z3 y3 z4 y4
            obtain ⟨wy, hwy⟩ : ∃ wy, wy = put5 wx b8 (.bool qf) (.string qlo) (.string qhi) (.int .i64 qr) (.slice c2p qn c2c) := ⟨_, rfl⟩
            have ht2 : Tn [b8] wx wy := by rw [hwy]; exact (Tn.refl _ _).five (.inl (by simp)) _ _ _ _ _
            have hk8'' : Bk wy b8 24 #[.bool qf, .string qlo, .string qhi, .int .i64 qr, .slice c2p qn c2c] := by rw [hwy]; exact Bk.five hk8' _ _ _ _ _
            have hk7'' := hk7'.tn ht2 (by simpa using hne)
            have hs1'' := hs1'.page hk8' ht2
            have hs2'' := hs2'.page hk8' ht2
            unfold put5 at hwy
            rw [← hwy]
            clear hwy
            refine wpAnyM_done (by kernel_rfl) ?_ _
            have hbb : w0.heap.size ≤ b7 ∧ w0.heap.size ≤ b8 := ⟨hg7, hg8⟩
            exact ⟨rfl, b7, b8, c1p, c1c, c2p, c2c, rfl, (hB.trans (ht.below hB.size (by simpa using hbb.1))).trans (ht2.below (Nat.le_trans hB.size ht.size) (by simpa using hbb.2)), hk7'', hk8'', hs1''.ens, hs2''.ens⟩
      · have HK9 : Hid (∀ a w, _ → K a w) := hK
        clear hK
        go_simp
        have hB0 := hB
        have hal : Below x26.heap.size x26 (x26.alloc (.cells zc 24)) := (Below.refl _ _).alloc (Nat.le_refl _) _
        have hB := hB0.trans (hal.mono hB0.size)
        refine HK9.out _ _ ⟨fun _ => hB, ?_⟩
        clear HK9 K
        try simp only [Act.put, List.setIfInBounds_toArray, List.set_cons_zero, List.set_cons_succ]
        have hk7 := Bk.new x26 24 zc
        have hlt := hk8.lt
        have hk8 := hk8.alloc (.cells zc 24)
        have hg7' := hB0.size
        obtain ⟨b7, hbe⟩ : ∃ b7, x26.heap.size = b7 := ⟨_, rfl⟩
        rw [hbe] at hk7
        have hg7 : w0.heap.size ≤ b7 := by rw [← hbe]; exact hg7'
        have hne : b7 ≠ b8 := by rw [← hbe]; exact Nat.ne_of_gt hlt
        obtain ⟨x32, hWe⟩ : ∃ x32, x26.alloc (.cells zc 24) = x32 := ⟨_, rfl⟩
        try unfold zc at hWe
        have hB : Below w0.heap.size w0 x32 := by rw [← hWe]; exact hB
        have hk7 : Bk x32 b7 24 zc := by rw [← hWe]; exact hk7
        have hk8 : Bk x32 b8 24 zc := by rw [← hWe]; exact hk8
        rw [hWe, hbe]
        clear hWe hbe hal hB0 hlt
        refine wpAnyM_ready (rs := [1]) (by kernel_rfl) (by simp) ?_
        refine AllReadyM.cons (o := { dst := some 22, op := Op.call { callee := Callee.value (Operand.func 32), args := #[Operand.tmp 21], argTypes := #[24] }, type := 24, pos := _, after := #[{ on := 0, ground := Ground.data }], guard := none }) rfl (fun K hK => ?_) AllReadyM.nil
        · have HK9 : Hid (∀ a w, _ → K a w) := hK
          clear hK
          go_simp
          refine (rclone_any pf plo phi pr pp pn pc pl _ HP.out.lenq (HP.out.ens.below (BW.out.trans (hB.mono BW.out.size)) (Nat.le_refl _)) (by omega) HP.out.nil).mono ?_
          rintro x x33 ⟨c1p, c1c, rfl, ho, hb⟩
          have hB0 := hB
          have hB : Below w0.heap.size w0 x33 := hB0.trans (hb.mono hB0.size)
          try go_wp2_with fail
          refine HK9.out _ _ ⟨fun _ => hB, ?_⟩
          clear HK9 K
          try simp only [Act.put, List.setIfInBounds_toArray, List.set_cons_zero, List.set_cons_succ]
          have hk7 := hk7.below hb hk7.lt
          have hk8 := hk8.below hb hk8.lt
          have hs1 := (ho.seg).mono (Nat.zero_le _)
          clear hB0 hb ho
          refine wpAnyM_ready (rs := [3]) (by kernel_rfl) (by simp) ?_
          refine AllReadyM.cons (o := { dst := some 24, op := Op.call { callee := Callee.value (Operand.func 32), args := #[Operand.tmp 23], argTypes := #[24] }, type := 24, pos := _, after := #[{ on := 2, ground := Ground.data }, { on := 1, ground := Ground.chain }], guard := none }) rfl (fun K hK => ?_) AllReadyM.nil
          · have HK9 : Hid (∀ a w, _ → K a w) := hK
            clear hK
            go_simp
            refine (rclone_any qf qlo qhi qr qp qn qc ql _ HQ.out.lenq (HQ.out.ens.below (BW.out.trans (hB.mono BW.out.size)) (Nat.le_refl _)) (by omega) HQ.out.nil).mono ?_
            rintro x x34 ⟨c2p, c2c, rfl, ho, hb⟩
            have hB0 := hB
            have hB : Below w0.heap.size w0 x34 := hB0.trans (hb.mono hB0.size)
            try go_wp2_with fail
            refine HK9.out _ _ ⟨fun _ => hB, ?_⟩
            clear HK9 K
            try simp only [Act.put, List.setIfInBounds_toArray, List.set_cons_zero, List.set_cons_succ]
            have hk7 := hk7.below hb hk7.lt
            have hk8 := hk8.below hb hk8.lt
            have hs1 := hs1.below hb (Nat.le_refl _)
            have hs2 := (ho.seg).mono (Nat.zero_le _)
            clear hB0 hb ho
            have z0 : x34.cell? ⟨b7, 0, none⟩ = some (.bool false) := hk7.cell 0
            have y0 : x34.frozen? ⟨b7, 0, none⟩ = false := hk7.frozen 0
            have z1 : x34.cell? ⟨b7, 1, none⟩ = some (.string ⟨#[]⟩) := hk7.cell 1
            have y1 : x34.frozen? ⟨b7, 1, none⟩ = false := hk7.frozen 1
            have z2 : x34.cell? ⟨b7, 2, none⟩ = some (.string ⟨#[]⟩) := hk7.cell 2
            have y2 : x34.frozen? ⟨b7, 2, none⟩ = false := hk7.frozen 2
            have z3 : x34.cell? ⟨b7, 3, none⟩ = some (.int .i64 0) := hk7.cell 3
            have y3 : x34.frozen? ⟨b7, 3, none⟩ = false := hk7.frozen 3
            have z4 : x34.cell? ⟨b7, 4, none⟩ = some (.slice none 0 0) := hk7.cell 4
            have y4 : x34.frozen? ⟨b7, 4, none⟩ = false := hk7.frozen 4
            refine wpAnyM_ready (rs := [6]) (by kernel_rfl) (by simp) ?_
            refine AllReadyM.cons (o := { dst := none, op := Op.store 24 (Operand.tmp 7) (Operand.tmp 22), type := 0, pos := _, after := #[{ on := 4, ground := Ground.data }, { on := 1, ground := Ground.data }, { on := 3, ground := Ground.chain }, { on := 0, ground := Ground.phase }, { on := 1, ground := Ground.phase }, { on := 2, ground := Ground.textOnly Departure.lateStores }, { on := 3, ground := Ground.textOnly Departure.lateStoresUnsure }, { on := 4, ground := Ground.phase }, { on := 5, ground := Ground.phase }], guard := none }) rfl (fun K hK => ?_) AllReadyM.nil
            have HK9 : Hid (∀ a w, _ → K a w) := hK
            clear hK
            go_simp
            refine HK9.out _ _ ⟨fun h => absurd h (by omega), ?_⟩
            clear HK9 K
            try simp only [Act.put, List.setIfInBounds_toArray, List.set_cons_zero, List.set_cons_succ]
            clear z0 y0 z1 y1 z2 y2 z3 y3 z4 y4
            obtain ⟨wx, hwx⟩ : ∃ wx, wx = put5 x34 b7 (.bool pf) (.string plo) (.string phi) (.int .i64 pr) (.slice c1p pn c1c) := ⟨_, rfl⟩
            have ht : Tn [b7] x34 wx := by rw [hwx]; exact (Tn.refl _ _).five (.inl (by simp)) _ _ _ _ _
            have hk7' : Bk wx b7 24 #[.bool pf, .string plo, .string phi, .int .i64 pr, .slice c1p pn c1c] := by rw [hwx]; exact Bk.five hk7 _ _ _ _ _
            have hk8' : Bk wx b8 24 zc := hk8.tn ht (by simpa using fun h => hne h.symm)
            have hs1' := hs1.page hk7 ht
            have hs2' := hs2.page hk7 ht
            unfold put5 at hwx
            rw [← hwx]
            clear hwx
            have z0 : wx.cell? ⟨b8, 0, none⟩ = some (.bool false) := hk8'.cell 0
            have y0 : wx.frozen? ⟨b8, 0, none⟩ = false := hk8'.frozen 0
            have z1 : wx.cell? ⟨b8, 1, none⟩ = some (.string ⟨#[]⟩) := hk8'.cell 1
            have y1 : wx.frozen? ⟨b8, 1, none⟩ = false := hk8'.frozen 1
            have z2 : wx.cell? ⟨b8, 2, none⟩ = some (.string ⟨#[]⟩) := hk8'.cell 2
            have y2 : wx.frozen? ⟨b8, 2, none⟩ = false := hk8'.frozen 2
            have z3 : wx.cell? ⟨b8, 3, none⟩ = some (.int .i64 0) := hk8'.cell 3
            have y3 : wx.frozen? ⟨b8, 3, none⟩ = false := hk8'.frozen 3
            have z4 : wx.cell? ⟨b8, 4, none⟩ = some (.slice none 0 0) := hk8'.cell 4
            have y4 : wx.frozen? ⟨b8, 4, none⟩ = false := hk8'.frozen 4
            refine wpAnyM_ready (rs := [7]) (by kernel_rfl) (by simp) ?_
            refine AllReadyM.cons (o := { dst := none, op := Op.store 24 (Operand.tmp 8) (Operand.tmp 24), type := 0, pos := _, after := #[{ on := 5, ground := Ground.data }, { on := 3, ground := Ground.data }, { on := 6, ground := Ground.chain }, { on := 0, ground := Ground.phase }, { on := 1, ground := Ground.phase }, { on := 2, ground := Ground.phase }, { on := 3, ground := Ground.phase }, { on := 4, ground := Ground.phase }, { on := 5, ground := Ground.phase }, { on := 6, ground := Ground.phase }], guard := none }) rfl (fun K hK => ?_) AllReadyM.nil
            have HK9 : Hid (∀ a w, _ → K a w) := hK
            clear hK
            go_simp
            refine HK9.out _ _ ⟨fun h => absurd h (by omega), ?_⟩
            clear HK9 K
            try simp only [Act.put, List.setIfInBounds_toArray, List.set_cons_zero, List.set_cons_succ]
            clear z0 y0 z1 y1 z2 y2 z3 y3 z4 y4
            obtain ⟨wy, hwy⟩ : ∃ wy, wy = put5 wx b8 (.bool qf) (.string qlo) (.string qhi) (.int .i64 qr) (.slice c2p qn c2c) := ⟨_, rfl⟩
            have ht2 : Tn [b8] wx wy := by rw [hwy]; exact (Tn.refl _ _).five (.inl (by simp)) _ _ _ _ _
            have hk8'' : Bk wy b8 24 #[.bool qf, .string qlo, .string qhi, .int .i64 qr, .slice c2p qn c2c] := by rw [hwy]; exact Bk.five hk8' _ _ _ _ _
            have hk7'' := hk7'.tn ht2 (by simpa using hne)
            have hs1'' := hs1'.page hk8' ht2
            have hs2'' := hs2'.page hk8' ht2
            unfold put5 at hwy
            rw [← hwy]
            clear hwy
            refine wpAnyM_done (by kernel_rfl) ?_ _
            have hbb : w0.heap.size ≤ b7 ∧ w0.heap.size ≤ b8 := ⟨hg7, hg8⟩
            exact ⟨rfl, b7, b8, c1p, c1c, c2p, c2c, rfl, (hB.trans (ht.below hB.size (by simpa using hbb.1))).trans (ht2.below (Nat.le_trans hB.size ht.size) (by simpa using hbb.2)), hk7'', hk8'', hs1''.ens, hs2''.ens⟩
  · rintro x a1 w1 ⟨rfl, b7, b8, c1p, c1c, c2p, c2c, rfl, hB1, hk7, hk8, hc1, hc2⟩
    have HW1 : Hid (Below w.heap.size w w1) := BW.out.trans (hB1.mono BW.out.size)
    have HA : Hid (∀ W, Below w1.heap.size w1 W → Bk W w.heap.size 24 #[.bool pf, .string plo, .string phi, .int .i64 pr, .slice pp pn pc] ∧ Bk W (w.heap.size + 1) 24 #[.bool qf, .string qlo, .string qhi, .int .i64 qr, .slice qp qn qc] ∧ Bk W (w.heap.size + 1 + 1) 28 #[.string e.key, .int .i64 e.s, .int .i64 e.g, .int .i64 e.c] ∧ Bk W b7 24 #[.bool pf, .string plo, .string phi, .int .i64 pr, .slice c1p pn c1c] ∧ Bk W b8 24 #[.bool qf, .string qlo, .string qhi, .int .i64 qr, .slice c2p qn c2c] ∧ Ens W pp pl ∧ Ens W qp ql ∧ Ens W c1p pl ∧ Ens W c2p ql) := by
      intro W hW
      have h0 := hB1.trans (hW.mono hB1.size)
      exact ⟨HXp.out.below h0 HXp.out.lt, HXq.out.below h0 HXq.out.lt, HXe.out.below h0 HXe.out.lt, hk7.below hW hk7.lt, hk8.below hW hk8.lt, (HP.out.ens.below BW.out (Nat.le_refl _)).below h0 (Nat.le_refl _), (HQ.out.ens.below BW.out (Nat.le_refl _)).below h0 (Nat.le_refl _), hc1.below hW (Nat.le_refl _), hc2.below hW (Nat.le_refl _)⟩
    have BA : Hid (Below w1.heap.size w1 w1) := Below.refl _ _
    have HNp : Hid (pl.length = pn) := HP.out.lenq
    have HNq : Hid (ql.length = qn) := HQ.out.lenq
    have HCp : Hid ((∀ e ∈ pl, e.key.size ≤ 140737488351232) ∧ (pp = none → pn = 0 ∧ pc = 0) ∧ (qp = none → qn = 0 ∧ qc = 0)) := ⟨HP.out.keys, HP.out.nil, HQ.out.nil⟩
    clear hB1 hk7 hk8 hc1 hc2 HXp HXq HXe HP HQ BW
    have hall := HA.out w1 BA.out
    have p0 : w1.cell? ⟨w.heap.size, 0, none⟩ = some (.bool pf) := hall.1.cell 0
    have p1 : w1.cell? ⟨w.heap.size, 1, none⟩ = some (.string plo) := hall.1.cell 1
    have p2 : w1.cell? ⟨w.heap.size, 2, none⟩ = some (.string phi) := hall.1.cell 2
    have p3 : w1.cell? ⟨w.heap.size, 3, none⟩ = some (.int .i64 pr) := hall.1.cell 3
    have p4 : w1.cell? ⟨w.heap.size, 4, none⟩ = some (.slice pp pn pc) := hall.1.cell 4
    have e0 : w1.cell? ⟨w.heap.size + 1 + 1, 0, none⟩ = some (.string e.key) := hall.2.2.1.cell 0
    have e1 : w1.cell? ⟨w.heap.size + 1 + 1, 1, none⟩ = some (.int .i64 e.s) := hall.2.2.1.cell 1
    have e2 : w1.cell? ⟨w.heap.size + 1 + 1, 2, none⟩ = some (.int .i64 e.g) := hall.2.2.1.cell 2
    have e3 : w1.cell? ⟨w.heap.size + 1 + 1, 3, none⟩ = some (.int .i64 e.c) := hall.2.2.1.cell 3
    clear hall
    go_wp2_with fail
    refine (put_any pf plo phi pr pp pn pc pl e _ HNp.out (HA.out _ BA.out).2.2.2.2.2.1 (by omega) HCp.out.2.1).mono ?_
    obtain ⟨⟨ga, ka⟩, hpt⟩ : ∃ o, Pg.put ⟨pf, plo, phi, pr, pl⟩ e = o := ⟨_, rfl⟩
    have hml := Pg.put_len ⟨pf, plo, phi, pr, pl⟩ e
    rw [hpt] at hml ⊢
    rintro x w2 ⟨v1, rfl, hga, hb⟩
    obtain ⟨af, alo, ahi, ar, ap, an, ac, al, rfl, rfl, hsa⟩ := hga.segs
    have hla : an ≤ 4194304 := by have h1 := HNp.out; have h2 := hsa.lenq; simp only at hml; omega
    clear hpt hml hga
    obtain ⟨w3, hw3⟩ : ∃ w3, w2.alloc (.cells #[.bool af, .string alo, .string ahi, .int .i64 ar, .slice ap an ac] 24) = w3 := ⟨_, rfl⟩
    have hal : Below w2.heap.size w2 w3 := by rw [← hw3]; exact (Below.refl _ _).alloc (Nat.le_refl _) _
    have hcn : Below w1.heap.size w1 w3 := hb.trans (hal.mono hb.size)
    have HXa : Hid (Bk w3 (w2.heap.size) 24 #[.bool af, .string alo, .string ahi, .int .i64 ar, .slice ap an ac]) := by rw [← hw3]; exact Bk.new _ _ _
    have HSa : Hid (Seg w3 w1.heap.size ap an ac al) := (hsa.below hal (Nat.le_refl _)).mono BA.out.size
    have BA : Hid (Below w1.heap.size w1 w3) := BA.out.trans (hcn.mono BA.out.size)
    clear hb hal hcn hsa p0 p1 p2 p3 p4 e0 e1 e2 e3
    have hall := HA.out w3 BA.out
    have p0 : w3.cell? ⟨w.heap.size, 0, none⟩ = some (.bool pf) := hall.1.cell 0
    have p1 : w3.cell? ⟨w.heap.size, 1, none⟩ = some (.string plo) := hall.1.cell 1
    have p2 : w3.cell? ⟨w.heap.size, 2, none⟩ = some (.string phi) := hall.1.cell 2
    have p3 : w3.cell? ⟨w.heap.size, 3, none⟩ = some (.int .i64 pr) := hall.1.cell 3
    have p4 : w3.cell? ⟨w.heap.size, 4, none⟩ = some (.slice pp pn pc) := hall.1.cell 4
    have e0 : w3.cell? ⟨w.heap.size + 1 + 1, 0, none⟩ = some (.string e.key) := hall.2.2.1.cell 0
    have e1 : w3.cell? ⟨w.heap.size + 1 + 1, 1, none⟩ = some (.int .i64 e.s) := hall.2.2.1.cell 1
    have e2 : w3.cell? ⟨w.heap.size + 1 + 1, 2, none⟩ = some (.int .i64 e.g) := hall.2.2.1.cell 2
    have e3 : w3.cell? ⟨w.heap.size + 1 + 1, 3, none⟩ = some (.int .i64 e.c) := hall.2.2.1.cell 3
    clear hall
    go_wp2_with fail
    clear hw3
    refine (remove_any pf plo phi pr pp pn pc pl e.key _ HNp.out (HA.out _ BA.out).2.2.2.2.2.1 (by omega)).mono ?_
    obtain ⟨⟨gb, kb⟩, hpt⟩ : ∃ o, Pg.remove ⟨pf, plo, phi, pr, pl⟩ e.key = o := ⟨_, rfl⟩
    have hml := Pg.remove_len ⟨pf, plo, phi, pr, pl⟩ e.key
    rw [hpt] at hml ⊢
    rintro x w4 ⟨v3, rfl, hgb, hb⟩
    obtain ⟨bf, blo, bhi, br, bp, bn, bc, bl, rfl, rfl, hsb⟩ := hgb.segs
    have hlb : bn ≤ 4194304 := by have h1 := HNp.out; have h2 := hsb.lenq; simp only at hml; omega
    clear hpt hml hgb
    obtain ⟨w5, hw5⟩ : ∃ w5, w4.alloc (.cells #[.bool bf, .string blo, .string bhi, .int .i64 br, .slice bp bn bc] 24) = w5 := ⟨_, rfl⟩
    have hal : Below w4.heap.size w4 w5 := by rw [← hw5]; exact (Below.refl _ _).alloc (Nat.le_refl _) _
    have hcn : Below w3.heap.size w3 w5 := hb.trans (hal.mono hb.size)
    have HXb : Hid (Bk w5 (w4.heap.size) 24 #[.bool bf, .string blo, .string bhi, .int .i64 br, .slice bp bn bc]) := by rw [← hw5]; exact Bk.new _ _ _
    have HSb : Hid (Seg w5 w1.heap.size bp bn bc bl) := (hsb.below hal (Nat.le_refl _)).mono BA.out.size
    have HXa : Hid (Bk w5 (w2.heap.size) 24 #[.bool af, .string alo, .string ahi, .int .i64 ar, .slice ap an ac]) := HXa.out.below hcn HXa.out.lt
    have HSa : Hid (Seg w5 w1.heap.size ap an ac al) := HSa.out.below hcn (Nat.le_refl _)
    have BA : Hid (Below w1.heap.size w1 w5) := BA.out.trans (hcn.mono BA.out.size)
    clear hb hal hcn hsb p0 p1 p2 p3 p4 e0 e1 e2 e3
    have hall := HA.out w5 BA.out
    have p0 : w5.cell? ⟨w.heap.size, 0, none⟩ = some (.bool pf) := hall.1.cell 0
    have p1 : w5.cell? ⟨w.heap.size, 1, none⟩ = some (.string plo) := hall.1.cell 1
    have p2 : w5.cell? ⟨w.heap.size, 2, none⟩ = some (.string phi) := hall.1.cell 2
    have p3 : w5.cell? ⟨w.heap.size, 3, none⟩ = some (.int .i64 pr) := hall.1.cell 3
    have p4 : w5.cell? ⟨w.heap.size, 4, none⟩ = some (.slice pp pn pc) := hall.1.cell 4
    clear hall
    go_wp2_with fail
    clear hw5
    refine (split_any pf plo phi pr pp pn pc pl 3 _ HNp.out (HA.out _ BA.out).2.2.2.2.2.1 (by omega) HCp.out.1).mono ?_
    obtain ⟨⟨gc, gd, kc2⟩, hpt⟩ : ∃ o, Pg.split ⟨pf, plo, phi, pr, pl⟩ 3 = o := ⟨_, rfl⟩
    have hml := Pg.split_len ⟨pf, plo, phi, pr, pl⟩ 3
    rw [hpt] at hml ⊢
    rintro x w6 ⟨v5, v6, rfl, hgc, hgd, hb⟩
    obtain ⟨cf, clo, chi, cr, cp, cn, cc, cl, rfl, rfl, hsc⟩ := hgc.segs
    obtain ⟨df, dlo, dhi, dr, dp, dn, dc, dl, rfl, rfl, hsd⟩ := hgd.segs
    have hlc : cn ≤ 4194304 := by have h1 := HNp.out; have h2 := hsc.lenq; have h3 := hml.1; simp only at h3; omega
    have hld : dn ≤ 4194304 := by have h1 := HNp.out; have h2 := hsd.lenq; have h3 := hml.2; simp only at h3; omega
    clear hpt hml hgc hgd
    obtain ⟨w7, hw7⟩ : ∃ w7, (w6.alloc (.cells #[.bool cf, .string clo, .string chi, .int .i64 cr, .slice cp cn cc] 24)).alloc (.cells #[.bool df, .string dlo, .string dhi, .int .i64 dr, .slice dp dn dc] 24) = w7 := ⟨_, rfl⟩
    have hal : Below w6.heap.size w6 w7 := by rw [← hw7]; exact ((Below.refl _ _).alloc (Nat.le_refl _) _).alloc (by simp) _
    have hcn : Below w5.heap.size w5 w7 := hb.trans (hal.mono hb.size)
    have HXc : Hid (Bk w7 (w6.heap.size) 24 #[.bool cf, .string clo, .string chi, .int .i64 cr, .slice cp cn cc]) := by rw [← hw7]; exact (Bk.new _ _ _).alloc _
    have HXd : Hid (Bk w7 (w6.heap.size + 1) 24 #[.bool df, .string dlo, .string dhi, .int .i64 dr, .slice dp dn dc]) := by rw [← hw7]; exact Bk.new1 _ _ _ _
    have HSc : Hid (Seg w7 w1.heap.size cp cn cc cl) := (hsc.below hal (Nat.le_refl _)).mono BA.out.size
    have HSd : Hid (Seg w7 w1.heap.size dp dn dc dl) := (hsd.below hal (Nat.le_refl _)).mono BA.out.size
    have HXa : Hid (Bk w7 (w2.heap.size) 24 #[.bool af, .string alo, .string ahi, .int .i64 ar, .slice ap an ac]) := HXa.out.below hcn HXa.out.lt
    have HSa : Hid (Seg w7 w1.heap.size ap an ac al) := HSa.out.below hcn (Nat.le_refl _)
    have HXb : Hid (Bk w7 (w4.heap.size) 24 #[.bool bf, .string blo, .string bhi, .int .i64 br, .slice bp bn bc]) := HXb.out.below hcn HXb.out.lt
    have HSb : Hid (Seg w7 w1.heap.size bp bn bc bl) := HSb.out.below hcn (Nat.le_refl _)
    have BA : Hid (Below w1.heap.size w1 w7) := BA.out.trans (hcn.mono BA.out.size)
    clear hb hal hcn hsc hsd p0 p1 p2 p3 p4
    have hall := HA.out w7 BA.out
    have p0 : w7.cell? ⟨w.heap.size, 0, none⟩ = some (.bool pf) := hall.1.cell 0
    have p1 : w7.cell? ⟨w.heap.size, 1, none⟩ = some (.string plo) := hall.1.cell 1
    have p2 : w7.cell? ⟨w.heap.size, 2, none⟩ = some (.string phi) := hall.1.cell 2
    have p3 : w7.cell? ⟨w.heap.size, 3, none⟩ = some (.int .i64 pr) := hall.1.cell 3
    have p4 : w7.cell? ⟨w.heap.size, 4, none⟩ = some (.slice pp pn pc) := hall.1.cell 4
    have q0 : w7.cell? ⟨w.heap.size + 1, 0, none⟩ = some (.bool qf) := hall.2.1.cell 0
    have q1 : w7.cell? ⟨w.heap.size + 1, 1, none⟩ = some (.string qlo) := hall.2.1.cell 1
    have q2 : w7.cell? ⟨w.heap.size + 1, 2, none⟩ = some (.string qhi) := hall.2.1.cell 2
    have q3 : w7.cell? ⟨w.heap.size + 1, 3, none⟩ = some (.int .i64 qr) := hall.2.1.cell 3
    have q4 : w7.cell? ⟨w.heap.size + 1, 4, none⟩ = some (.slice qp qn qc) := hall.2.1.cell 4
    clear hall
    go_wp2_with fail
    clear hw7
    refine (merge_any ⟨pf, plo, phi, pr, pl⟩ ⟨qf, qlo, qhi, qr, ql⟩ pp qp pn qn pc qc _ HNp.out HNq.out (HA.out _ BA.out).2.2.2.2.2.1 (HA.out _ BA.out).2.2.2.2.2.2.1 HCp.out.2.1 HCp.out.2.2 (by omega) (by omega)).mono ?_
    obtain ⟨⟨gm, km⟩, hpt⟩ : ∃ o, Pg.merge ⟨pf, plo, phi, pr, pl⟩ ⟨qf, qlo, qhi, qr, ql⟩ = o := ⟨_, rfl⟩
    have hml := Pg.merge_len ⟨pf, plo, phi, pr, pl⟩ ⟨qf, qlo, qhi, qr, ql⟩
    rw [hpt] at hml ⊢
    rintro x w8 ⟨v7, rfl, hgm, hb⟩
    obtain ⟨mf, mlo, mhi, mr, mp, mn, mc, ml, rfl, rfl, hsm⟩ := hgm.segs
    have hlm : mn ≤ 4194304 := by have h1 := HNp.out; have h2 := HNq.out; have h3 := hsm.lenq; simp only at hml; omega
    clear hpt hml hgm
    obtain ⟨w9, hw9⟩ : ∃ w9, w8.alloc (.cells #[.bool mf, .string mlo, .string mhi, .int .i64 mr, .slice mp mn mc] 24) = w9 := ⟨_, rfl⟩
    have hal : Below w8.heap.size w8 w9 := by rw [← hw9]; exact (Below.refl _ _).alloc (Nat.le_refl _) _
    have hcn : Below w7.heap.size w7 w9 := hb.trans (hal.mono hb.size)
    have HXm : Hid (Bk w9 (w8.heap.size) 24 #[.bool mf, .string mlo, .string mhi, .int .i64 mr, .slice mp mn mc]) := by rw [← hw9]; exact Bk.new _ _ _
    have HSm : Hid (Seg w9 w1.heap.size mp mn mc ml) := (hsm.below hal (Nat.le_refl _)).mono BA.out.size
    have HXa : Hid (Bk w9 (w2.heap.size) 24 #[.bool af, .string alo, .string ahi, .int .i64 ar, .slice ap an ac]) := HXa.out.below hcn HXa.out.lt
    have HSa : Hid (Seg w9 w1.heap.size ap an ac al) := HSa.out.below hcn (Nat.le_refl _)
    have HXb : Hid (Bk w9 (w4.heap.size) 24 #[.bool bf, .string blo, .string bhi, .int .i64 br, .slice bp bn bc]) := HXb.out.below hcn HXb.out.lt
    have HSb : Hid (Seg w9 w1.heap.size bp bn bc bl) := HSb.out.below hcn (Nat.le_refl _)
    have HXc : Hid (Bk w9 (w6.heap.size) 24 #[.bool cf, .string clo, .string chi, .int .i64 cr, .slice cp cn cc]) := HXc.out.below hcn HXc.out.lt
    have HSc : Hid (Seg w9 w1.heap.size cp cn cc cl) := HSc.out.below hcn (Nat.le_refl _)
    have HXd : Hid (Bk w9 (w6.heap.size + 1) 24 #[.bool df, .string dlo, .string dhi, .int .i64 dr, .slice dp dn dc]) := HXd.out.below hcn HXd.out.lt
    have HSd : Hid (Seg w9 w1.heap.size dp dn dc dl) := HSd.out.below hcn (Nat.le_refl _)
    have BA : Hid (Below w1.heap.size w1 w9) := BA.out.trans (hcn.mono BA.out.size)
    clear hb hal hcn hsm p0 p1 p2 p3 p4 q0 q1 q2 q3 q4
    go_wp2_with fail
    clear hw9
    have HC : Hid (∀ w', Below w9.heap.size w9 w' → Bk w' (w2.heap.size) 24 #[.bool af, .string alo, .string ahi, .int .i64 ar, .slice ap an ac] ∧ Bk w' (w4.heap.size) 24 #[.bool bf, .string blo, .string bhi, .int .i64 br, .slice bp bn bc] ∧ Bk w' (w6.heap.size) 24 #[.bool cf, .string clo, .string chi, .int .i64 cr, .slice cp cn cc] ∧ Bk w' (w6.heap.size + 1) 24 #[.bool df, .string dlo, .string dhi, .int .i64 dr, .slice dp dn dc] ∧ Bk w' (w8.heap.size) 24 #[.bool mf, .string mlo, .string mhi, .int .i64 mr, .slice mp mn mc] ∧ Bk w' w.heap.size 24 #[.bool pf, .string plo, .string phi, .int .i64 pr, .slice pp pn pc]) := fun w' hW => ⟨HXa.out.below hW HXa.out.lt, HXb.out.below hW HXb.out.lt, HXc.out.below hW HXc.out.lt, HXd.out.below hW HXd.out.lt, HXm.out.below hW HXm.out.lt, (HA.out w' (BA.out.trans (hW.mono BA.out.size))).1⟩
    obtain ⟨wd, hwd⟩ : ∃ wd, w9.drew = wd := ⟨_, rfl⟩
    have hB : Below w9.heap.size w9 wd := by rw [← hwd]; exact (Below.refl _ _).drew
    refine wp_region_mid (S := (fun w' => Below w9.heap.size w9 w')) 10 (by kernel_rfl) ?_
    rw [hwd]
    clear hwd
    refine wpAnyM_take (i := 0) [] (oi := { dst := some 50, op := Op.load 24 (Operand.tmp 9), type := 24, pos := _, after := #[], guard := none }) (v := .agg #[.bool af, .string alo, .string ahi, .int .i64 ar, .slice ap an ac]) rfl (by kernel_rfl) (by kernel_rfl) (by kernel_rfl) (by kernel_rfl) (fun _ _ _ h => h) (Or.inl ⟨by rfl, ?_⟩) hB ?_
    · (intro w' hSw; have h9 := (HC.out w' hSw).1; have k0 := h9.cell 0; have k1 := h9.cell 1; have k2 := h9.cell 2; have k3 := h9.cell 3; have k4 := h9.cell 4; simp at k0 k1 k2 k3 k4; clear h9 hSw; go_simp; try with_reducible rfl)
    try simp only [Act.put, List.setIfInBounds_toArray, List.set_cons_zero, List.set_cons_succ]
    refine wpAnyM_take (i := 1) [] (oi := { dst := some 51, op := Op.load 24 (Operand.tmp 11), type := 24, pos := _, after := #[], guard := none }) (v := .agg #[.bool bf, .string blo, .string bhi, .int .i64 br, .slice bp bn bc]) rfl (by kernel_rfl) (by kernel_rfl) (by kernel_rfl) (by kernel_rfl) (fun _ _ _ h => h) (Or.inl ⟨by rfl, ?_⟩) hB ?_
    · (intro w' hSw; have h9 := (HC.out w' hSw).2.1; have k0 := h9.cell 0; have k1 := h9.cell 1; have k2 := h9.cell 2; have k3 := h9.cell 3; have k4 := h9.cell 4; simp at k0 k1 k2 k3 k4; clear h9 hSw; go_simp; try with_reducible rfl)
    try simp only [Act.put, List.setIfInBounds_toArray, List.set_cons_zero, List.set_cons_succ]
    refine wpAnyM_take (i := 2) [] (oi := { dst := some 52, op := Op.load 24 (Operand.tmp 13), type := 24, pos := _, after := #[], guard := none }) (v := .agg #[.bool cf, .string clo, .string chi, .int .i64 cr, .slice cp cn cc]) rfl (by kernel_rfl) (by kernel_rfl) (by kernel_rfl) (by kernel_rfl) (fun _ _ _ h => h) (Or.inl ⟨by rfl, ?_⟩) hB ?_
    · (intro w' hSw; have h9 := (HC.out w' hSw).2.2.1; have k0 := h9.cell 0; have k1 := h9.cell 1; have k2 := h9.cell 2; have k3 := h9.cell 3; have k4 := h9.cell 4; simp at k0 k1 k2 k3 k4; clear h9 hSw; go_simp; try with_reducible rfl)
    try simp only [Act.put, List.setIfInBounds_toArray, List.set_cons_zero, List.set_cons_succ]
    refine wpAnyM_take (i := 3) [] (oi := { dst := some 53, op := Op.load 24 (Operand.tmp 14), type := 24, pos := _, after := #[], guard := none }) (v := .agg #[.bool df, .string dlo, .string dhi, .int .i64 dr, .slice dp dn dc]) rfl (by kernel_rfl) (by kernel_rfl) (by kernel_rfl) (by kernel_rfl) (fun _ _ _ h => h) (Or.inl ⟨by rfl, ?_⟩) hB ?_
    · (intro w' hSw; have h9 := (HC.out w' hSw).2.2.2.1; have k0 := h9.cell 0; have k1 := h9.cell 1; have k2 := h9.cell 2; have k3 := h9.cell 3; have k4 := h9.cell 4; simp at k0 k1 k2 k3 k4; clear h9 hSw; go_simp; try with_reducible rfl)
    try simp only [Act.put, List.setIfInBounds_toArray, List.set_cons_zero, List.set_cons_succ]
    refine wpAnyM_take (i := 4) [] (oi := { dst := some 54, op := Op.load 24 (Operand.tmp 16), type := 24, pos := _, after := #[], guard := none }) (v := .agg #[.bool mf, .string mlo, .string mhi, .int .i64 mr, .slice mp mn mc]) rfl (by kernel_rfl) (by kernel_rfl) (by kernel_rfl) (by kernel_rfl) (fun _ _ _ h => h) (Or.inl ⟨by rfl, ?_⟩) hB ?_
    · (intro w' hSw; have h9 := (HC.out w' hSw).2.2.2.2.1; have k0 := h9.cell 0; have k1 := h9.cell 1; have k2 := h9.cell 2; have k3 := h9.cell 3; have k4 := h9.cell 4; simp at k0 k1 k2 k3 k4; clear h9 hSw; go_simp; try with_reducible rfl)
    try simp only [Act.put, List.setIfInBounds_toArray, List.set_cons_zero, List.set_cons_succ]
    refine wpAnyM_take (i := 5) [] (oi := { dst := some 55, op := Op.load 24 (Operand.tmp 3), type := 24, pos := _, after := #[], guard := none }) (v := .agg #[.bool pf, .string plo, .string phi, .int .i64 pr, .slice pp pn pc]) rfl (by kernel_rfl) (by kernel_rfl) (by kernel_rfl) (by kernel_rfl) (fun _ _ _ h => h) (Or.inl ⟨by rfl, ?_⟩) hB ?_
    · (intro w' hSw; have h9 := (HC.out w' hSw).2.2.2.2.2; have k0 := h9.cell 0; have k1 := h9.cell 1; have k2 := h9.cell 2; have k3 := h9.cell 3; have k4 := h9.cell 4; simp at k0 k1 k2 k3 k4; clear h9 hSw; go_simp; try with_reducible rfl)
    try simp only [Act.put, List.setIfInBounds_toArray, List.set_cons_zero, List.set_cons_succ]
    refine wpAnyM_take (i := 9) [] (oi := { dst := some 59, op := Op.move (Operand.const (Value.int IntKind.i64 0)), type := 3, pos := _, after := #[], guard := none }) (v := .int .i64 0) rfl (by kernel_rfl) (by kernel_rfl) (by kernel_rfl) (by kernel_rfl) (fun _ _ _ h => h) (Or.inl ⟨by rfl, ?_⟩) hB ?_
    · (intro w' hSw; go_simp; try with_reducible rfl)
    try simp only [Act.put, List.setIfInBounds_toArray, List.set_cons_zero, List.set_cons_succ]
    refine wpAnyM_ready (rs := [6]) (by kernel_rfl) (by simp) ?_
    refine AllReadyM.cons (o := { dst := some 56, op := Op.call { callee := Callee.value (Operand.func 22), args := #[Operand.tmp 55], argTypes := #[24] }, type := 24, pos := _, after := #[{ on := 5, ground := Ground.data }], guard := none }) rfl (fun K hK => ?_) AllReadyM.nil
    have HK9 : Hid (∀ a w, _ → K a w) := hK
    clear hK
    go_simp
    refine (pclone_any pf plo phi pr pp pn pc pl _ HNp.out (HA.out _ (BA.out.trans (hB.mono BA.out.size))).2.2.2.2.2.1 (by omega) (fun h => (HCp.out.2.1 h).1)).mono ?_
    rintro x w10 ⟨kp, kc, rfl, hok, hb⟩
    have hB10 := hB.trans (hb.mono hB.size)
    try go_wp2_with fail
    refine HK9.out _ _ ⟨fun _ => hB10, ?_⟩
    clear HK9 K
    try simp only [Act.put, List.setIfInBounds_toArray, List.set_cons_zero, List.set_cons_succ]
    refine wpAnyM_ready (rs := [7]) (by kernel_rfl) (by simp) ?_
    refine AllReadyM.cons (o := { dst := some 57, op := Op.buildSlice 53 6 #[(0, Operand.tmp 50), (1, Operand.tmp 51), (2, Operand.tmp 52), (3, Operand.tmp 53), (4, Operand.tmp 54), (5, Operand.tmp 56)], type := 53, pos := _, after := #[{ on := 0, ground := Ground.data }, { on := 1, ground := Ground.data }, { on := 2, ground := Ground.data }, { on := 3, ground := Ground.data }, { on := 4, ground := Ground.data }, { on := 6, ground := Ground.data }], guard := none }) rfl (fun K hK => ?_) AllReadyM.nil
    have HK9 : Hid (∀ a w, _ → K a w) := hK
    clear hK
    go_simp
    have hbD : Below w9.heap.size w9 (w10.alloc (.cells #[.bool af, .string alo, .string ahi, .int .i64 ar, .slice ap an ac, .bool bf, .string blo, .string bhi, .int .i64 br, .slice bp bn bc, .bool cf, .string clo, .string chi, .int .i64 cr, .slice cp cn cc, .bool df, .string dlo, .string dhi, .int .i64 dr, .slice dp dn dc, .bool mf, .string mlo, .string mhi, .int .i64 mr, .slice mp mn mc, .bool pf, .string plo, .string phi, .int .i64 pr, .slice kp pn kc] 24)) := hB10.alloc hB10.size _
    refine HK9.out _ _ ⟨fun _ => hbD, ?_⟩
    clear HK9 K
    try simp only [Act.put, List.setIfInBounds_toArray, List.set_cons_zero, List.set_cons_succ]
    refine wpAnyM_ready (rs := [8]) (by kernel_rfl) (by simp) ?_
    refine AllReadyM.cons (o := { dst := some 58, op := Op.call { callee := Callee.builtin Builtin.len, args := #[Operand.tmp 57], argTypes := #[53] }, type := 3, pos := _, after := #[{ on := 7, ground := Ground.data }], guard := none }) rfl (fun K hK => ?_) AllReadyM.nil
    have HK9 : Hid (∀ a w, _ → K a w) := hK
    clear hK
    go_simp
    refine HK9.out _ _ ⟨fun _ => hbD, ?_⟩
    clear HK9 K
    try simp only [Act.put, List.setIfInBounds_toArray, List.set_cons_zero, List.set_cons_succ]
    refine wpAnyM_done (by kernel_rfl) ?_ _
    obtain ⟨wD, hwD⟩ : ∃ wD, w10.alloc (.cells #[.bool af, .string alo, .string ahi, .int .i64 ar, .slice ap an ac, .bool bf, .string blo, .string bhi, .int .i64 br, .slice bp bn bc, .bool cf, .string clo, .string chi, .int .i64 cr, .slice cp cn cc, .bool df, .string dlo, .string dhi, .int .i64 dr, .slice dp dn dc, .bool mf, .string mlo, .string mhi, .int .i64 mr, .slice mp mn mc, .bool pf, .string plo, .string phi, .int .i64 pr, .slice kp pn kc] 24) = wD := ⟨_, rfl⟩
    obtain ⟨D, hD⟩ : ∃ D, w10.heap.size = D := ⟨_, rfl⟩
    have hKD : Bk wD D 24 #[.bool af, .string alo, .string ahi, .int .i64 ar, .slice ap an ac, .bool bf, .string blo, .string bhi, .int .i64 br, .slice bp bn bc, .bool cf, .string clo, .string chi, .int .i64 cr, .slice cp cn cc, .bool df, .string dlo, .string dhi, .int .i64 dr, .slice dp dn dc, .bool mf, .string mlo, .string mhi, .int .i64 mr, .slice mp mn mc, .bool pf, .string plo, .string phi, .int .i64 pr, .slice kp pn kc] := by rw [← hwD, ← hD]; exact Bk.new _ _ _
    have hal : Below w10.heap.size w10 wD := by rw [← hwD]; exact (Below.refl _ _).alloc (Nat.le_refl _) _
    have h10 : Below w9.heap.size w9 w10 := hB10
    have BD : Hid (Below w1.heap.size w1 wD) := BA.out.trans ((h10.trans (hal.mono h10.size)).mono BA.out.size)
    have hsz : w9.heap.size ≤ w10.heap.size := h10.size
    have HPa : Hid (SpE w1.heap.size D ap an ac wD) := by rw [← hD]; exact ((HSa.out.sp (Nat.le_refl _) hsz).up h10).up hal
    have HPb : Hid (SpE w1.heap.size D bp bn bc wD) := by rw [← hD]; exact ((HSb.out.sp (Nat.le_refl _) hsz).up h10).up hal
    have HPc : Hid (SpE w1.heap.size D cp cn cc wD) := by rw [← hD]; exact ((HSc.out.sp (Nat.le_refl _) hsz).up h10).up hal
    have HPd : Hid (SpE w1.heap.size D dp dn dc wD) := by rw [← hD]; exact ((HSd.out.sp (Nat.le_refl _) hsz).up h10).up hal
    have HPm : Hid (SpE w1.heap.size D mp mn mc wD) := by rw [← hD]; exact ((HSm.out.sp (Nat.le_refl _) hsz).up h10).up hal
    have HPk : Hid (SpE w1.heap.size D kp pn kc wD) := by rw [← hD]; exact ((hok.seg.mono (Nat.le_trans BA.out.size hB.size)).sp (Nat.le_refl _) (Nat.le_refl _)).up hal
    have HDD : Hid (D < wD.heap.size ∧ w1.heap.size ≤ D) := ⟨hKD.lt, by rw [← hD]; exact Nat.le_trans BA.out.size hsz⟩
    have HKD : Hid (Bk wD D 24 #[.bool af, .string alo, .string ahi, .int .i64 ar, .slice ap an ac, .bool bf, .string blo, .string bhi, .int .i64 br, .slice bp bn bc, .bool cf, .string clo, .string chi, .int .i64 cr, .slice cp cn cc, .bool df, .string dlo, .string dhi, .int .i64 dr, .slice dp dn dc, .bool mf, .string mlo, .string mhi, .int .i64 mr, .slice mp mn mc, .bool pf, .string plo, .string phi, .int .i64 pr, .slice kp pn kc]) := hKD
    rw [hwD, hD]
    have HROW : Hid (∀ k, k < 6 → ∃ f lo hi r p n cap, n ≤ 4194304 ∧ SpE w1.heap.size D p n cap wD ∧ ∀ W, Wq w1.heap.size D wD W → W.cell? ⟨D, k * 5, none⟩ = some (.bool f) ∧ W.cell? ⟨D, k * 5 + 1, none⟩ = some (.string lo) ∧ W.cell? ⟨D, k * 5 + 2, none⟩ = some (.string hi) ∧ W.cell? ⟨D, k * 5 + 3, none⟩ = some (.int .i64 r) ∧ W.cell? ⟨D, k * 5 + 4, none⟩ = some (.slice p n cap)) := by
      intro k hk
      match k, hk with
      | 0, _ => exact ⟨af, alo, ahi, ar, ap, an, ac, by omega, HPa.out, fun W hW => by have h := hW.bk HKD.out (Nat.le_refl _); exact ⟨h.cell 0, h.cell 1, h.cell 2, h.cell 3, h.cell 4⟩⟩
      | 1, _ => exact ⟨bf, blo, bhi, br, bp, bn, bc, by omega, HPb.out, fun W hW => by have h := hW.bk HKD.out (Nat.le_refl _); exact ⟨h.cell 5, h.cell 6, h.cell 7, h.cell 8, h.cell 9⟩⟩
      | 2, _ => exact ⟨cf, clo, chi, cr, cp, cn, cc, by omega, HPc.out, fun W hW => by have h := hW.bk HKD.out (Nat.le_refl _); exact ⟨h.cell 10, h.cell 11, h.cell 12, h.cell 13, h.cell 14⟩⟩
      | 3, _ => exact ⟨df, dlo, dhi, dr, dp, dn, dc, by omega, HPd.out, fun W hW => by have h := hW.bk HKD.out (Nat.le_refl _); exact ⟨h.cell 15, h.cell 16, h.cell 17, h.cell 18, h.cell 19⟩⟩
      | 4, _ => exact ⟨mf, mlo, mhi, mr, mp, mn, mc, by omega, HPm.out, fun W hW => by have h := hW.bk HKD.out (Nat.le_refl _); exact ⟨h.cell 20, h.cell 21, h.cell 22, h.cell 23, h.cell 24⟩⟩
      | 5, _ => exact ⟨pf, plo, phi, pr, kp, pn, kc, by omega, HPk.out, fun W hW => by have h := hW.bk HKD.out (Nat.le_refl _); exact ⟨h.cell 25, h.cell 26, h.cell 27, h.cell 28, h.cell 29⟩⟩
    clear hKD hal h10 hwD hD hb hB hB10 hok hbD HC hsz HKD HXa HSa HPa HXb HSb HPb HXc HSc HPc HXd HSd HPd HXm HSm HPm HPk hla hlb hlc hld hlm
    go_wp2_with fail
    go_loopw [59] (fun iv wr => ∃ k : Nat, k ≤ 6 ∧ iv = .int .i64 k ∧ Hid (Wq w1.heap.size D wD wr)) (fun iv _ => 6 - (intOf iv).toNat)
    case atStart => exact ⟨0, Nat.zero_le _, rfl, Wq.refl _ _ _⟩
    case round =>
      obtain ⟨k, hk, rfl, HW⟩ := hrel
      by_cases hlt : k < 6
      · have hli : (k : Int) < 6 := by omega
        obtain ⟨xf, xlo, xhi, xr, xp, xn, xc, hxn, hxs, hxc⟩ := HROW.out k hlt
        obtain ⟨d0, d1, d2, d3, d4⟩ := hxc wr HW.out
        have HXS : Hid (SpE w1.heap.size D xp xn xc wr) := hxs.wq HW.out
        obtain ⟨wx, hwx⟩ : ∃ wx, wr.alloc (.cells #[.bool xf, .string xlo, .string xhi, .int .i64 xr, .slice xp xn xc] 24) = wx := ⟨_, rfl⟩
        have hal : Below wr.heap.size wr wx := by rw [← hwx]; exact (Below.refl _ _).alloc (Nat.le_refl _) _
        have HXX : Hid (Bk wx wr.heap.size 24 #[.bool xf, .string xlo, .string xhi, .int .i64 xr, .slice xp xn xc]) := by rw [← hwx]; exact Bk.new _ _ _
        have HSX : Hid (SpE w1.heap.size D xp xn xc wx) := HXS.out.up hal
        have HWX : Hid (Wq w1.heap.size D wr wx) := Wq.of_below hal
        have HDX : Hid (D ≤ wr.heap.size) := Nat.le_trans (Nat.le_of_lt HDD.out.1) HW.out.size
        have f4 : wx.cell? ⟨wr.heap.size, 4, none⟩ = some (.slice xp xn xc) := HXX.out.cell 4
        clear hxs hxc hal
        go_wp2_with fail
        clear d0 d1 d2 d3 d4 hwx
        obtain ⟨X, hX⟩ : ∃ X, wr.heap.size = X := ⟨_, rfl⟩
        rw [hX] at HXX HDX f4 ⊢
        have HXQ : Hid (wr.heap.size = X) := hX
        clear hX
        go_loopw [66] (fun iv wi => ∃ i : Nat, i ≤ xn ∧ iv = .int .i64 i ∧ Hid (Wq w1.heap.size D wx wi)) (fun iv _ => xn - (intOf iv).toNat)
        case atStart => exact ⟨0, Nat.zero_le _, rfl, Wq.refl _ _ _⟩
        case round =>
          obtain ⟨i, hi, rfl, HV⟩ := hrel
          have g4 : wr.cell? ⟨X, 4, none⟩ = some (.slice xp xn xc) := (HV.out.bk HXX.out HDX.out).cell 4
          by_cases hit : i < xn
          · have hii : (i : Int) < (xn : Int) := by omega
            have hi0 : (0 : Int) ≤ (i : Int) := by omega
            obtain ⟨g, o, u, rfl, cu, fu, hset⟩ := (HSX.out.wq HV.out).at hit
            have HSET : Hid (∀ x, Wq w1.heap.size D wx (wr.setCell ⟨g, o + i * 4, none⟩ x)) := fun x => HV.out.trans (hset x)
            clear hset
            go_wp2
            go_roundw
            case rel => exact ⟨i + 1, by omega, by go_num, HSET.out _⟩
            case measure => simp [intOf]; omega
          · have hii : ¬ (i : Int) < (xn : Int) := by omega
            obtain ⟨we, hwe⟩ : ∃ we, wr.alloc (.cells #[.string ⟨#[109, 111, 114, 101]⟩, .int .i64 0, .int .i64 0, .int .i64 0] 28) = we := ⟨_, rfl⟩
            have hae : Below wr.heap.size wr we := by rw [← hwe]; exact (Below.refl _ _).alloc (Nat.le_refl _) _
            have hke : Bk we wr.heap.size 28 #[.string ⟨#[109, 111, 114, 101]⟩, .int .i64 0, .int .i64 0, .int .i64 0] := by rw [← hwe]; exact Bk.new _ _ _
            have hsp := (HSX.out.wq HV.out).up hae
            obtain ⟨q9, n9, c9, w12, hr, hq9⟩ := hsp.app hxn hke (by intro u hu; simp at hu; rcases hu with rfl | rfl <;> rfl) 22
            have HR : Hid _ := hr
            have hall : Wq w1.heap.size D wx w12 := (HV.out.trans (Wq.of_below hae)).trans hq9
            have hx12 := hall.bk HXX.out HDX.out
            have m4 : w12.cell? ⟨X, 4, none⟩ = some (.slice xp xn xc) := hx12.cell 4
            have n4 : w12.frozen? ⟨X, 4, none⟩ = false := hx12.frozen 4
            have HEND : Hid (∀ u, Wq w1.heap.size D wD (w12.setCell ⟨X, 4, none⟩ u)) := fun u => HW.out.trans ((HWX.out.trans hall).fresh (by rw [HXQ.out]; exact Nat.le_refl _) 4 u)
            have HWE : Hid _ := hwe
            clear hae hke hsp hr hq9 hall hx12 hwe
            go_wp2_with (at_builtin; refine Lib.wpList_append_run _ rfl _ _ _ _ rfl _ _ rfl rfl _ _ (by rw [HWE.out]; exact HR.out) ?_)
            go_roundw
            case rel => exact ⟨k + 1, by omega, by go_num, HEND.out _⟩
            case measure => simp [intOf]; omega
      · have hli : ¬ (k : Int) < 6 := by omega
        have HBW : Hid (Below w1.heap.size w1 wr) := BD.out.trans (HW.out.below (by have := HDD.out; omega))
        clear HROW
        go_wp2_with fail
        refine (live_any _).mono ?_
        rintro x w13 ⟨rfl, hb13⟩
        have HB13 : Hid (Below w1.heap.size w1 w13) := HBW.out.trans (hb13.mono HBW.out.size)
        clear hb13
        have hall := HA.out w13 HB13.out
        have p0 : w13.cell? ⟨w.heap.size, 0, none⟩ = some (.bool pf) := hall.1.cell 0
        have p1 : w13.cell? ⟨w.heap.size, 1, none⟩ = some (.string plo) := hall.1.cell 1
        have p2 : w13.cell? ⟨w.heap.size, 2, none⟩ = some (.string phi) := hall.1.cell 2
        have p3 : w13.cell? ⟨w.heap.size, 3, none⟩ = some (.int .i64 pr) := hall.1.cell 3
        have p4 : w13.cell? ⟨w.heap.size, 4, none⟩ = some (.slice pp pn pc) := hall.1.cell 4
        have u0 : w13.cell? ⟨b7, 0, none⟩ = some (.bool pf) := hall.2.2.2.1.cell 0
        have u1 : w13.cell? ⟨b7, 1, none⟩ = some (.string plo) := hall.2.2.2.1.cell 1
        have u2 : w13.cell? ⟨b7, 2, none⟩ = some (.string phi) := hall.2.2.2.1.cell 2
        have u3 : w13.cell? ⟨b7, 3, none⟩ = some (.int .i64 pr) := hall.2.2.2.1.cell 3
        have u4 : w13.cell? ⟨b7, 4, none⟩ = some (.slice c1p pn c1c) := hall.2.2.2.1.cell 4
        have HE1 : Hid (Ens w13 pp pl ∧ Ens w13 c1p pl) := ⟨hall.2.2.2.2.2.1, hall.2.2.2.2.2.2.2.1⟩
        clear hall
        go_wp2_with fail
        refine (rsame_any ⟨pf, plo, phi, pr, pl⟩ ⟨pf, plo, phi, pr, pl⟩ pp c1p pn pn pc c1c _ HNp.out HNp.out HE1.out.1 HE1.out.2 (by omega)).mono ?_
        rw [Pg.same_self]
        rintro x w14 ⟨rfl, hb14⟩
        have HB14 : Hid (Below w1.heap.size w1 w14) := HB13.out.trans (hb14.mono HB13.out.size)
        clear hb14 p0 p1 p2 p3 p4 u0 u1 u2 u3 u4
        have hall := HA.out w14 HB14.out
        have q0 : w14.cell? ⟨w.heap.size + 1, 0, none⟩ = some (.bool qf) := hall.2.1.cell 0
        have q1 : w14.cell? ⟨w.heap.size + 1, 1, none⟩ = some (.string qlo) := hall.2.1.cell 1
        have q2 : w14.cell? ⟨w.heap.size + 1, 2, none⟩ = some (.string qhi) := hall.2.1.cell 2
        have q3 : w14.cell? ⟨w.heap.size + 1, 3, none⟩ = some (.int .i64 qr) := hall.2.1.cell 3
        have q4 : w14.cell? ⟨w.heap.size + 1, 4, none⟩ = some (.slice qp qn qc) := hall.2.1.cell 4
        have v0 : w14.cell? ⟨b8, 0, none⟩ = some (.bool qf) := hall.2.2.2.2.1.cell 0
        have v1 : w14.cell? ⟨b8, 1, none⟩ = some (.string qlo) := hall.2.2.2.2.1.cell 1
        have v2 : w14.cell? ⟨b8, 2, none⟩ = some (.string qhi) := hall.2.2.2.2.1.cell 2
        have v3 : w14.cell? ⟨b8, 3, none⟩ = some (.int .i64 qr) := hall.2.2.2.2.1.cell 3
        have v4 : w14.cell? ⟨b8, 4, none⟩ = some (.slice c2p qn c2c) := hall.2.2.2.2.1.cell 4
        have HE2 : Hid (Ens w14 qp ql ∧ Ens w14 c2p ql) := ⟨hall.2.2.2.2.2.2.1, hall.2.2.2.2.2.2.2.2⟩
        clear hall
        go_wp2_with fail
        refine (rsame_any ⟨qf, qlo, qhi, qr, ql⟩ ⟨qf, qlo, qhi, qr, ql⟩ qp c2p qn qn qc c2c _ HNq.out HNq.out HE2.out.1 HE2.out.2 (by omega)).mono ?_
        rw [Pg.same_self]
        rintro x w15 ⟨rfl, hb15⟩
        have HF : Hid (Below w.heap.size w w15) := HW1.out.trans ((HB14.out.trans (hb15.mono HB14.out.size)).mono HW1.out.size)
        clear hb15 q0 q1 q2 q3 q4 v0 v1 v2 v3 v4
        go_wp2
        go_ret
        exact ⟨rfl, HF.out⟩

theorem contract_pageOwn (H : Type) (enc : TypeId × Value → H) (W : World) (base : Nat) (args : Array Value) (ds gs : List (DataW H)) (before : List MemPlace)
    (hval0 : ∀ (j : Nat) t v, Try.f8.params[j]? = some t → args[j]? = some v → Value.okWide Try.prog W .any base t v)
    (hW : DataW.Whole enc Try.prog Try.f8.params.toList Rows.pageOwnSpec.vars false W args.toList ds gs before) (hk : Rows.uptoSmall H (ds ++ gs) = true) :
    Calls Try.prog 8 args W fun e W' => ∃ v, e = .returned v ∧ Rows.pageOwnSpec.post enc Try.prog Try.f8 false true false false W args v W' := by
  have hval : ∀ (j : Nat) t v, Try.f8.params[j]? = some t → args[j]? = some v → Value.okWide Try.prog W .any base t v := hval0
  have hW' := hW
  obtain ⟨p, q, hA0, hV, rfl, hfz, hnd⟩ := hW
  have hA : DataW.TrodAll enc Try.prog W 0 (fun _ => true) true Try.f8.params.toList args.toList ds p := hA0
  rw [Try.params8] at hA hval
  obtain ⟨v0, vs0, d0, ds0, p0, q0, hargs, rfl, rfl, h0, r0⟩ := trodAll_cons hA
  obtain ⟨v1, vs1, d1, ds1, p1, q1, rfl, rfl, rfl, h1, r1⟩ := trodAll_cons r0
  obtain ⟨v2, vs2, d2, ds2, p2, q2, rfl, rfl, rfl, h2, r2⟩ := trodAll_cons r1
  obtain ⟨rfl, rfl, rfl⟩ := trodAll_nil r2
  obtain rfl : args = #[v0, v1, v2] := by cases args; simp_all
  obtain ⟨rfl, rfl⟩ := trodVars_none hV
  simp only [List.append_nil] at hk
  have k0 := h0
  have lt0 : ∀ x ∈ p0, x.block < W.heap.size := by obtain ⟨m, hm⟩ := k0; exact DataW.trod_lt m _ _ _ hm
  obtain ⟨b0, lo0, hi0, r0', a0, len0, cap0, l0, e0, w0⟩ : ∃ leaf lo hi r a len cap l, v0 = .agg #[.bool leaf, .string lo, .string hi, .int .i64 r, .slice a len cap] ∧ InE 1048576 W a len cap l := by
    obtain ⟨cs, hcs, _⟩ := okWide_struct Try.underlying24 (hval 0 24 v0 rfl rfl)
    obtain ⟨fuel, hf⟩ := h0
    obtain ⟨b, lo, hi, r, a, len, cap, l, hg, ho⟩ := in_page (M := 1048576) hf (page_upto hk (by simp))
    refine ⟨b, lo, hi, r, a, len, cap, l, ?_, ho⟩
    rw [hcs] at hg ⊢
    congr 1
    apply Array.ext'
    simpa [Value.cells] using hg
  subst e0
  have k1 := h1
  have lt1 : ∀ x ∈ p1, x.block < W.heap.size := by obtain ⟨m, hm⟩ := k1; exact DataW.trod_lt m _ _ _ hm
  obtain ⟨b1, lo1, hi1, r1', a1, len1, cap1, l1, e1, w1⟩ : ∃ leaf lo hi r a len cap l, v1 = .agg #[.bool leaf, .string lo, .string hi, .int .i64 r, .slice a len cap] ∧ InE 1048576 W a len cap l := by
    obtain ⟨cs, hcs, _⟩ := okWide_struct Try.underlying24 (hval 1 24 v1 rfl rfl)
    obtain ⟨fuel, hf⟩ := h1
    obtain ⟨b, lo, hi, r, a, len, cap, l, hg, ho⟩ := in_page (M := 1048576) hf (page_upto hk (by simp))
    refine ⟨b, lo, hi, r, a, len, cap, l, ?_, ho⟩
    rw [hcs] at hg ⊢
    congr 1
    apply Array.ext'
    simpa [Value.cells] using hg
  subst e1
  have k2 := h2
  have lt2 : ∀ x ∈ p2, x.block < W.heap.size := by obtain ⟨m, hm⟩ := k2; exact DataW.trod_lt m _ _ _ hm
  obtain ⟨g2, e2⟩ : ∃ g : En, v2 = g.val := by
    obtain ⟨cs, hcs, _⟩ := okWide_struct Try.underlying28 (hval 2 28 v2 rfl rfl)
    obtain ⟨fuel, hf⟩ := h2
    obtain ⟨g, hg, _⟩ := in_en hf
    refine ⟨g, ?_⟩
    rw [hcs] at hg ⊢
    congr 1
    apply Array.ext'
    simpa [Value.cells, En.cells] using hg
  subst e2
  clear hA0 hval0
  simp only [List.append_nil] at hW'
  refine (walk_pageOwn b0 lo0 hi0 r0' a0 len0 cap0 l0 b1 lo1 hi1 r1' a1 len1 cap1 l1 g2 W w0 w1).mono fun e W' ⟨he, bel⟩ => ?_
  subst he
  exact ⟨_, rfl, _, _, _, [], _, [], hW', trodAll_mk1 (shut_bool Try.underlying4 _), (trodAll_cons_mk (Below.trod laidOut (by kernel_rfl) (of_decide_eq_true (by kernel_rfl)) k0 bel lt0) (trodAll_cons_mk (Below.trod laidOut (by kernel_rfl) (of_decide_eq_true (by kernel_rfl)) k1 bel lt1) (trodAll_cons_mk (Below.trod laidOut (by kernel_rfl) (of_decide_eq_true (by kernel_rfl)) k2 bel lt2) trodAll_mk0))), rfl, bel.frame _, fun h => by cases h⟩

set_option maxRecDepth 100000 in
set_option maxHeartbeats 2000000 in
theorem lifted_pageOwn (os : Os) (started : os.Started) (H : Type) (enc : TypeId × Value → H) (F : Stop.Interp) :
    ReturnsInHanded {} Try.checked os 8 .any ((Rows.OpenSpec.upto Rows.pageOwnSpec).pre6 enc Try.prog Try.f8 Rows.pageOwnUptoRow.domain false) (((Rows.OpenSpec.upto Rows.pageOwnSpec).at F).post enc Try.prog Try.f8 false true false false) := by
  refine returnsInHanded_of_cond (C := Try.checked) (s := Rows.OpenSpec.upto Rows.pageOwnSpec) (k := Rows.uptoSmall) rfl own started (by kernel_rfl) Try.func8
    (OpenSpec.witness (enc := enc) (C := Try.checked) (s := Rows.OpenSpec.upto Rows.pageOwnSpec) (k := Rows.uptoSmall) rfl false ⟨#[], #[.agg #[.bool false, .string .empty, .string .empty, .int .i64 0, .slice none 0 0], .agg #[.bool false, .string .empty, .string .empty, .int .i64 0, .slice none 0 0], .agg #[.string .empty, .int .i64 0, .int .i64 0, .int .i64 0]], []⟩ 8 (by kernel_rfl) (by kernel_rfl) (by kernel_rfl)
      (x := ([.agg [.lit (.bool false), .lit (.string []), .lit (.string []), .lit (.int .i64 0), .nil], .agg [.lit (.bool false), .lit (.string []), .lit (.string []), .lit (.int .i64 0), .nil], .agg [.lit (.string []), .agg [.lit (.int .i64 0), .lit (.int .i64 0)], .lit (.int .i64 0)]], [], [])) (by kernel_rfl) rfl (by kernel_rfl)) ?_
  intro W base args ds gs before hval hW _ hk _
  exact contract_pageOwn H enc W base args ds gs before hval hW hk

/-- The statement. -/
theorem pageOwn_holds : Rows.PageOwnUptoSaid :=
  OpenClaim.holds_of_cond 8 Try.f8 rfl rfl rfl rfl rfl rfl rfl ⟨rfl, rfl, rfl, rfl, rfl⟩ rfl rfl rfl rfl rfl (by kernel_rfl) Try.func8 (by kernel_rfl)
    (of_decide_eq_true (by kernel_rfl)) (by unfold Func.isWrapper; first | (rw [if_pos (by decide +kernel)]; kernel_rfl) | (rw [if_neg (by decide +kernel)]; exact ⟨rfl, rfl⟩))
    (fun os started H enc _ F => lifted_pageOwn os started H enc F)
#print axioms pageOwn_holds
end Go.Proofs.Ytakibndjmhadnaa
