/- Contracts and facts, several texts in one. It proves no statement. -/
import Derived.Test.YtblgphfdicffcaaGreatDoorHfc
import Derived.Deep.DeepCutAuto

/- Contract: a step that lays bytes behind a file's. It proves no statement. -/


namespace Go.Proofs.YtblgphfdicffcaaGreatDoor
open Go.RowKit Go.Maps Go.WideMaps
set_option linter.unusedVariables false
set_option linter.unusedSimpArgs false

theorem blk_ne {w : World} {g g' : Nat} {t t' : TypeId} {cs cs' : Array Value} (h : Blk w g t cs) (h' : Blk w g' t' cs') (ne : t ≠ t') : g ≠ g' := by
  intro q
  subst q
  have h1 : w.heap[g]? = some (.cells cs t (0, 0)) := h
  have h2 : w.heap[g]? = some (.cells cs' t' (0, 0)) := h'
  rw [h1] at h2
  simp only [Option.some.injEq, Obj.cells.injEq] at h2
  exact ne h2.2.1
theorem own_own_ne {w : World} {base base' z z' n n' : Nat} {e e' : TypeId} {v v' : Value} {xs xs' : List Value} (h : w.ownsRow base e z v n xs) (h' : w.ownsRow base' e' z' v' n' xs') (ne : e ≠ e') (k : Nat) (hk : v.ownBlock = some k) : v'.ownBlock ≠ some k := by
  intro q
  rcases h.2 with ⟨rfl, _⟩ | ⟨g, c, cur, rfl, _, h3, _⟩
  · simp [Value.ownBlock] at hk
  · rcases h'.2 with ⟨rfl, _⟩ | ⟨g', c', cur', rfl, _, h3', _⟩
    · simp [Value.ownBlock] at q
    · have e1 : g = k := by simpa [Value.ownBlock] using hk
      have e2 : g' = k := by simpa [Value.ownBlock] using q
      subst e1
      subst e2
      rw [h3] at h3'
      simp only [Option.some.injEq, Obj.cells.injEq] at h3'
      exact ne h3'.2.1
/-- The blocks that a write turns. -/
def wrS (g gf : Nat) (nv wtv : Value) (x : Nat) : Prop := x = g ∨ x = gf ∨ nv.ownBlock = some x ∨ wtv.ownBlock = some x
set_option maxRecDepth 100000 in
set_option maxHeartbeats 3200000 in
theorem write_ok {w : World} {g : Nat} {room : Int} {bn bf : Nat} {wv : Value} {left : Int} {off : Bool} (h : MedB w g room bn bf wv left off) (hl : left ≤ 9223372036854775807) (he : (stepR left off).2.2 = 0)
    (gf n base k : Nat) (nv fv wtv : Value) (l x : List UInt8) (cs : List Value) (A : Option Addr) (m c B : Nat) (hf : FileB w gf nv fv wtv) (hnv : w.ownsRow base 5 1 nv n (bytesV l)) (hwt : w.ownsRow base 218 2 wtv k cs) (hbase : base ≤ w.heap.size)
    (hr : Reads w B A m x) (hB : B ≤ w.heap.size) (hfar : ∀ ad, A = some ad → 0 < m → ad.block ≠ g) (hA : A = none → c = 0) (hnm : n + m ≤ 100000000) (hk : k ≤ 1000000) :
    Calls Tryz.prog 252 #[.pointer (some ⟨g, 0, none⟩), .pointer (some ⟨gf, 0, none⟩), .agg #[.int .i64 n, .slice A m c]] w fun e w' => e = .returned (.int .i64 0) ∧ ∃ nv' wtv', MedB w' g room bn bf wv (stepR left off).1 (stepR left off).2.1 ∧ FileB w' gf nv' fv wtv' ∧ w'.ownsRow base 5 1 nv' (n + m) (bytesV (l ++ x)) ∧ w'.ownsRow base 218 2 wtv' (k + 1) (cs ++ [.int .i64 n, .slice A m c]) ∧ Chg w w' (wrS g gf nv wtv) ∧ (nv'.ownBlock = nv.ownBlock ∨ ∃ j, nv'.ownBlock = some j ∧ w.heap.size ≤ j) ∧ (wtv'.ownBlock = wtv.ownBlock ∨ ∃ j, wtv'.ownBlock = some j ∧ w.heap.size ≤ j) := by
  obtain ⟨gc, hgc⟩ : ∃ gc, gc = w.heap.size := ⟨_, rfl⟩
  obtain ⟨w1, hw1⟩ : ∃ w1, w1 = w.alloc (.cells #[.int .i64 n, .slice A m c] 218) := ⟨_, rfl⟩
  have S1 : Still w w1 := by rw [hw1]; exact (Still.refl w).alloc (Nat.le_refl _) _
  have C1 := Chg.of_still S1 (fun _ => False)
  have hX : ∀ {x : Nat}, ¬ (fun _ : Nat => False) x := fun h => h
  have B1 : Blk w1 gc 218 #[.int .i64 n, .slice A m c] := by rw [hw1, hgc]; exact Blk.new _ _ _
  have M1 := h.still S1
  have ST := Lib.hid (step_yes M1 hl)
  rw [he] at ST
  obtain ⟨L2, hL2⟩ : ∃ L2, L2 = (stepR left off).1 := ⟨_, rfl⟩
  obtain ⟨O2, hO2⟩ : ∃ O2, O2 = (stepR left off).2.1 := ⟨_, rfl⟩
  rw [← hL2, ← hO2] at ST ⊢
  have n1 : g ≠ gf := blk_ne h hf (by decide)
  have n2 : nv.ownBlock ≠ some g := own_ne hnv h (by decide)
  have n3 : nv.ownBlock ≠ some gf := own_ne hnv hf (by decide)
  have n4 : wtv.ownBlock ≠ some g := own_ne hwt h (by decide)
  have n5 : wtv.ownBlock ≠ some gf := own_ne hwt hf (by decide)
  have n6 : ∀ j, nv.ownBlock = some j → wtv.ownBlock ≠ some j := fun j hj => own_own_ne hnv hwt (by decide) j hj
  have n7 : ∀ j, nv.ownBlock = some j → j ≠ gc := fun j hj => by rw [hgc]; exact Nat.ne_of_lt (hnv.lt j hj).2
  have n8 : gc ≠ g := by rw [hgc]; exact (Nat.ne_of_lt (Blk.lt h)).symm
  have n9 : gc ≠ gf := by rw [hgc]; exact (Nat.ne_of_lt (Blk.lt hf)).symm
  have NE := Lib.hid (And.intro n1 (And.intro n2 (And.intro n3 (And.intro n4 (And.intro n5 (And.intro n6 (And.intro n7 (And.intro n8 n9))))))))
  have HF1 := Lib.hid (C1.blk hf (fun h => h))
  have HN1 := Lib.hid (C1.own hnv (fun _ _ h => h))
  have HT1 := Lib.hid (C1.own hwt (fun _ _ h => h))
  have HR1 := Lib.hid (hr.still hB S1)
  have HC1 := Lib.hid C1
  have HB1 := Lib.hid B1
  have HW1 := Lib.hid hw1
  have HGC := Lib.hid hgc
  have HBS := Lib.hid (And.intro hbase hB)
  have HP := Lib.hid (And.intro hfar (And.intro hA (And.intro hnm hk)))
  clear h hl he hf hnv hwt hbase hr hB hfar hA hnm hk hw1 S1 C1 B1 M1 hgc hL2 hO2 n1 n2 n3 n4 n5 n6 n7 n8 n9 hX
  go_enter Tryz.func252, Tryz.ntmps252
  go_wp2_with fail
  rw [← HW1.out, ← HGC.out]
  refine ST.out.mono ?_
  rintro e w2 ⟨rfl, m2, gr2⟩
  have C2 := Lib.hid (Chg.of_grown (S := fun x => x = g) gr2 (fun k e _ => by injection e with e; exact e.symm))
  have DW := Lib.hid (show Still w2 w2.drew from (Still.refl _).drew)
  obtain ⟨we, hwe⟩ : ∃ we, we = w2.drew := ⟨_, rfl⟩
  rw [← hwe] at DW
  have Ce := Lib.hid (Chg.trans C2.out (Chg.of_still DW.out (fun _ => False)) (fun _ _ h => h.elim))
  have Be := Lib.hid (Ce.out.blk HB1.out NE.out.2.2.2.2.2.2.2.1)
  have Me := Lib.hid (show MedB we g room bn bf wv L2 O2 from (Chg.of_still DW.out (fun _ => False)).blk m2 (fun h => h))
  have Fe := Lib.hid (show FileB we gf nv fv wtv from Ce.out.blk HF1.out (fun e => NE.out.1 e.symm))
  have Ne := Lib.hid (Ce.out.own HN1.out (fun k e q => NE.out.2.1 (q ▸ e)))
  have Te := Lib.hid (Ce.out.own HT1.out (fun k e q => NE.out.2.2.2.1 (q ▸ e)))
  have SZe := Lib.hid (show w.heap.size ≤ we.heap.size from Nat.le_trans HC1.out.size Ce.out.size)
  have Re := Lib.hid (show Reads we B A m x from by
    refine ⟨HR1.out.1, fun hn => ?_⟩
    obtain ⟨bb, o, e, hlt, hc⟩ := HR1.out.2 hn
    refine ⟨bb, o, e, hlt, fun i hi => ?_⟩
    exact (World.cell?_of_block (w := w1) (Ce.out.block bb (Nat.lt_of_lt_of_le hlt (Nat.le_trans HBS.out.2 HC1.out.size)) (fun q => HP.out.1 _ e hn q))).trans (hc i hi))
  have DO := Lib.hid (change_add nv base n l A m c x we B Ne.out (Nat.le_trans HBS.out.1 SZe.out) Re.out (Nat.le_trans HBS.out.2 SZe.out) HP.out.2.1 HP.out.2.2.1)
  have k0 : we.cell? ⟨gc, 0, none⟩ = some (.int .i64 n) := Blk.cell Be.out 0
  have k1 : we.cell? ⟨gc, 1, none⟩ = some (.slice A m c) := Blk.cell Be.out 1
  have c0 : we.cell? ⟨gf, 0, none⟩ = some nv := Blk.cell Fe.out 0
  have HWE := Lib.hid hwe
  have MID := Lib.hid (show ∀ v3 w3, w3.ownsRow base 5 1 v3 (n + m) (bytesV (l ++ x)) → we.grownBy w3 nv.ownBlock → (v3.ownBlock = nv.ownBlock ∨ ∃ j, v3.ownBlock = some j ∧ we.heap.size ≤ j) → w3.cell? ⟨gf, 0, none⟩ = some nv ∧ w3.frozen? ⟨gf, 0, none⟩ = false ∧ MedB (w3.setCell ⟨gf, 0, none⟩ v3) g room bn bf wv L2 O2 ∧ FileB (w3.setCell ⟨gf, 0, none⟩ v3) gf v3 fv wtv ∧ (w3.setCell ⟨gf, 0, none⟩ v3).ownsRow base 5 1 v3 (n + m) (bytesV (l ++ x)) ∧ (w3.setCell ⟨gf, 0, none⟩ v3).ownsRow base 218 2 wtv k cs ∧ Blk (w3.setCell ⟨gf, 0, none⟩ v3) gc 218 #[.int .i64 n, .slice A m c] ∧ Chg w (w3.setCell ⟨gf, 0, none⟩ v3) (wrS g gf nv wtv) ∧ (v3.ownBlock = nv.ownBlock ∨ ∃ j, v3.ownBlock = some j ∧ w.heap.size ≤ j) by
    intro v3 w3 o3 gr3 lo3
    have C3 := Chg.of_grown (S := fun x => nv.ownBlock = some x) gr3 (fun k e _ => e)
    have F3 : FileB w3 gf nv fv wtv := C3.blk Fe.out (fun e => NE.out.2.2.1 e)
    have C4 := Chg.of_grown (S := fun x => x = gf) (grownBy_set w3 gf 0 v3) (fun k e _ => by injection e with e; exact e.symm)
    have NV : v3.ownBlock ≠ some gf := own_ne o3 F3 (by decide)
    refine ⟨Blk.cell F3 0, Blk.frozen F3 0, C4.blk (C3.blk Me.out (fun e => NE.out.2.1 e)) (fun e => NE.out.1 e), Blk.setc F3 0 v3, C4.own o3 (fun k e q => NV (q ▸ e)), C4.own (C3.own Te.out (fun k e q => NE.out.2.2.2.2.2.1 k q e)) (fun k e q => NE.out.2.2.2.2.1 (q ▸ e)), C4.blk (C3.blk Be.out (fun e => NE.out.2.2.2.2.2.2.1 _ e rfl)) (fun e => NE.out.2.2.2.2.2.2.2.2 e), ?_, ?_⟩
    · have a1 := Chg.trans (S := wrS g gf nv wtv) (HC1.out.mono (fun _ _ h => h.elim)) Ce.out (fun x _ h => .inl h)
      have a2 := Chg.trans a1 C3 (fun x _ h => .inr (.inr (.inl h)))
      exact Chg.trans a2 C4 (fun x _ h => .inr (.inl h))
    · rcases lo3 with h | ⟨j, h, hj⟩
      · exact .inl h
      · exact .inr ⟨j, h, Nat.le_trans SZe.out hj⟩)
  clear m2 gr2 hwe ST
  go_upto_region 4 with fail
  go_cut [6] (fun ev wx => ev = .int .i64 0 ∧ ∃ nv', MedB wx g room bn bf wv L2 O2 ∧ FileB wx gf nv' fv wtv ∧ wx.ownsRow base 5 1 nv' (n + m) (bytesV (l ++ x)) ∧ wx.ownsRow base 218 2 wtv k cs ∧ Blk wx gc 218 #[.int .i64 n, .slice A m c] ∧ Chg w wx (wrS g gf nv wtv) ∧ (nv'.ownBlock = nv.ownBlock ∨ ∃ j, nv'.ownBlock = some j ∧ w.heap.size ≤ j))
  case first =>
    refine wp_region_any (by kernel_rfl) ?_
    change wpAny _ _ _ _ _ _ _ w2.drew
    rw [← HWE.out]
    try simp only [Act.put, List.setIfInBounds_toArray, List.set_cons_zero, List.set_cons_succ]
    refine wpAny_take (i := 0) (v := .pointer (some ⟨gf, 0, none⟩)) rfl (by kernel_rfl) (by kernel_rfl) (by kernel_rfl) (fun _ _ _ h => h) (Or.inl ⟨by kernel_rfl, fun w => by go_simp⟩) ?_
    try simp only [Act.put, List.setIfInBounds_toArray, List.set_cons_zero, List.set_cons_succ]
    refine wpAny_take (i := 2) (v := .pointer (some ⟨gf, 0, none⟩)) rfl (by kernel_rfl) (by kernel_rfl) (by kernel_rfl) (fun _ _ _ h => h) (Or.inl ⟨by kernel_rfl, fun w => by go_simp⟩) ?_
    try simp only [Act.put, List.setIfInBounds_toArray, List.set_cons_zero, List.set_cons_succ]
    refine wpAny_take (i := 3) (v := .pointer (some ⟨gf, 0, none⟩)) rfl (by kernel_rfl) (by kernel_rfl) (by kernel_rfl) (fun _ _ _ h => h) (Or.inl ⟨by kernel_rfl, fun w => by go_simp⟩) ?_
    try simp only [Act.put, List.setIfInBounds_toArray, List.set_cons_zero, List.set_cons_succ]
    refine wpAny_take (i := 4) (v := .pointer (some ⟨gf, 0, none⟩)) rfl (by kernel_rfl) (by kernel_rfl) (by kernel_rfl) (fun _ _ _ h => h) (Or.inl ⟨by kernel_rfl, fun w => by go_simp⟩) ?_
    try simp only [Act.put, List.setIfInBounds_toArray, List.set_cons_zero, List.set_cons_succ]
    refine wpAny_ready (rs := [1, 5]) (by kernel_rfl) (by simp) ?_
    refine AllReady.cons (o := ⟨some 14, .load 218 (.tmp 5), _, _, _, none⟩) rfl (fun K' hK' => ?_) (AllReady.cons (o := ⟨some 18, .load 34 (.tmp 17), _, _, _, none⟩) rfl (fun K' hK' => ?_) AllReady.nil)
    · have HK' := Lib.hid hK'
      clear hK'
      rw [if_pos (by kernel_rfl)]
      go_simp
      refine HK'.out _ _ ?_
      clear HK' K'
      try simp only [Act.put, List.setIfInBounds_toArray, List.set_cons_zero, List.set_cons_succ]
      refine wpAny_ready (rs := [5]) (by kernel_rfl) (by simp) ?_
      refine AllReady.cons (o := ⟨some 18, .load 34 (.tmp 17), _, _, _, none⟩) rfl (fun K' hK' => ?_) AllReady.nil
      have HK' := Lib.hid hK'
      clear hK'
      rw [if_pos (by kernel_rfl)]
      go_simp
      refine HK'.out _ _ ?_
      clear HK' K'
      try simp only [Act.put, List.setIfInBounds_toArray, List.set_cons_zero, List.set_cons_succ]
      refine wpAny_ready (rs := [6]) (by kernel_rfl) (by simp) ?_
      refine AllReady.cons (o := ⟨some 19, .call { callee := .value (.func 189), args := #[.tmp 14, .tmp 18], argTypes := #[218, 34] }, _, _, _, none⟩) rfl (fun K' hK' => ?_) AllReady.nil
      have HK' := Lib.hid hK'
      clear hK'
      go_simp
      go_wp2_with (go_at_call 189; refine DO.out.mono ?_; rintro e w3 ⟨v3, rfl, o3, gr3, lo3⟩)
      obtain ⟨A3, c3, rfl⟩ := own_formV o3
      obtain ⟨d0, f0, MM⟩ := MID.out _ w3 o3 gr3 lo3
      clear o3 gr3 lo3
      refine HK'.out _ _ ?_
      clear HK' K'
      try simp only [Act.put, List.setIfInBounds_toArray, List.set_cons_zero, List.set_cons_succ]
      refine wpAny_take (i := 7) (v := .pointer (some ⟨gf, 0, none⟩)) rfl (by kernel_rfl) (by kernel_rfl) (by kernel_rfl) (fun _ _ _ h => h) (Or.inl ⟨by kernel_rfl, fun w => by go_simp⟩) ?_
      try simp only [Act.put, List.setIfInBounds_toArray, List.set_cons_zero, List.set_cons_succ]
      refine wpAny_take (i := 8) (v := .pointer (some ⟨gf, 0, none⟩)) rfl (by kernel_rfl) (by kernel_rfl) (by kernel_rfl) (fun _ _ _ h => h) (Or.inl ⟨by kernel_rfl, fun w => by go_simp⟩) ?_
      try simp only [Act.put, List.setIfInBounds_toArray, List.set_cons_zero, List.set_cons_succ]
      refine wpAny_ready (rs := [9]) (by kernel_rfl) (by simp) ?_
      refine AllReady.cons (o := ⟨none, .store 34 (.tmp 21) (.tmp 19), _, _, _, none⟩) rfl (fun K' hK' => ?_) AllReady.nil
      have HK' := Lib.hid hK'
      clear hK'
      rw [if_pos (by kernel_rfl)]
      go_simp
      refine HK'.out _ _ ?_
      clear HK' K'
      try simp only [Act.put, List.setIfInBounds_toArray, List.set_cons_zero, List.set_cons_succ]
      refine wpAny_done (by kernel_rfl) ?_ _
      go_simp
      go_wp2_with fail
      go_meet
      exact ⟨rfl, _, MM⟩
    · have HK' := Lib.hid hK'
      clear hK'
      rw [if_pos (by kernel_rfl)]
      go_simp
      refine HK'.out _ _ ?_
      clear HK' K'
      try simp only [Act.put, List.setIfInBounds_toArray, List.set_cons_zero, List.set_cons_succ]
      refine wpAny_ready (rs := [1]) (by kernel_rfl) (by simp) ?_
      refine AllReady.cons (o := ⟨some 14, .load 218 (.tmp 5), _, _, _, none⟩) rfl (fun K' hK' => ?_) AllReady.nil
      have HK' := Lib.hid hK'
      clear hK'
      rw [if_pos (by kernel_rfl)]
      go_simp
      refine HK'.out _ _ ?_
      clear HK' K'
      try simp only [Act.put, List.setIfInBounds_toArray, List.set_cons_zero, List.set_cons_succ]
      refine wpAny_ready (rs := [6]) (by kernel_rfl) (by simp) ?_
      refine AllReady.cons (o := ⟨some 19, .call { callee := .value (.func 189), args := #[.tmp 14, .tmp 18], argTypes := #[218, 34] }, _, _, _, none⟩) rfl (fun K' hK' => ?_) AllReady.nil
      have HK' := Lib.hid hK'
      clear hK'
      go_simp
      go_wp2_with (go_at_call 189; refine DO.out.mono ?_; rintro e w3 ⟨v3, rfl, o3, gr3, lo3⟩)
      obtain ⟨A3, c3, rfl⟩ := own_formV o3
      obtain ⟨d0, f0, MM⟩ := MID.out _ w3 o3 gr3 lo3
      clear o3 gr3 lo3
      refine HK'.out _ _ ?_
      clear HK' K'
      try simp only [Act.put, List.setIfInBounds_toArray, List.set_cons_zero, List.set_cons_succ]
      refine wpAny_take (i := 7) (v := .pointer (some ⟨gf, 0, none⟩)) rfl (by kernel_rfl) (by kernel_rfl) (by kernel_rfl) (fun _ _ _ h => h) (Or.inl ⟨by kernel_rfl, fun w => by go_simp⟩) ?_
      try simp only [Act.put, List.setIfInBounds_toArray, List.set_cons_zero, List.set_cons_succ]
      refine wpAny_take (i := 8) (v := .pointer (some ⟨gf, 0, none⟩)) rfl (by kernel_rfl) (by kernel_rfl) (by kernel_rfl) (fun _ _ _ h => h) (Or.inl ⟨by kernel_rfl, fun w => by go_simp⟩) ?_
      try simp only [Act.put, List.setIfInBounds_toArray, List.set_cons_zero, List.set_cons_succ]
      refine wpAny_ready (rs := [9]) (by kernel_rfl) (by simp) ?_
      refine AllReady.cons (o := ⟨none, .store 34 (.tmp 21) (.tmp 19), _, _, _, none⟩) rfl (fun K' hK' => ?_) AllReady.nil
      have HK' := Lib.hid hK'
      clear hK'
      rw [if_pos (by kernel_rfl)]
      go_simp
      refine HK'.out _ _ ?_
      clear HK' K'
      try simp only [Act.put, List.setIfInBounds_toArray, List.set_cons_zero, List.set_cons_succ]
      refine wpAny_done (by kernel_rfl) ?_ _
      go_simp
      go_wp2_with fail
      go_meet
      exact ⟨rfl, _, MM⟩
  case rest =>
    obtain ⟨rfl, nv', hh⟩ := hcut
    have HH := Lib.hid hh
    clear hh DO MID k0 k1 c0
    have DE := Lib.hid (show Still wc wc.drew from (Still.refl _).drew)
    obtain ⟨wf, hwf⟩ : ∃ wf, wf = wc.drew := ⟨_, rfl⟩
    rw [← hwf] at DE
    have Cf := Lib.hid (Chg.of_still DE.out (fun _ => False))
    have Bf := Lib.hid (Cf.out.blk HH.out.2.2.2.2.1 (fun h => h))
    have Ff := Lib.hid (show FileB wf gf nv' fv wtv from Cf.out.blk HH.out.2.1 (fun h => h))
    obtain ⟨w5, hw5⟩ : ∃ w5, w5 = wf.alloc (.cells #[.int .i64 n, .slice A m c] 218) := ⟨_, rfl⟩
    obtain ⟨g5, hg5⟩ : ∃ g5, g5 = wf.heap.size := ⟨_, rfl⟩
    have S5 := Lib.hid (show Still wc w5 by rw [hw5]; exact DE.out.trans ((Still.refl _).alloc (Nat.le_refl _) _))
    have C5 := Lib.hid (Chg.of_still S5.out (fun _ => False))
    have B5 := Lib.hid (show Blk w5 g5 218 #[.int .i64 n, .slice A m c] by rw [hw5, hg5]; exact Blk.new _ _ _)
    have F5 := Lib.hid (show FileB w5 gf nv' fv wtv from C5.out.blk HH.out.2.1 (fun h => h))
    have T5 := Lib.hid (C5.out.own HH.out.2.2.2.1 (fun _ _ h => h))
    have HW5 := Lib.hid hw5
    have HG5 := Lib.hid hg5
    have GC5 := Lib.hid (show ∀ q u, ([.int .i64 n, .slice A m c] : List Value)[q]? = some u → w5.cell? ⟨g5, q, none⟩ = some u from fun q u hq => (Blk.cell B5.out q).trans (by simpa using hq))
    have ONE := Lib.hid (show ∀ u ∈ ([.int .i64 n, .slice A m c] : List Value), u.oneCell' = true by
      intro u hu
      simp only [List.mem_cons, List.not_mem_nil, or_false] at hu
      rcases hu with rfl | rfl <;> rfl)
    have HK6 := Lib.hid (show k ≤ 1048576 by have := HP.out.2.2.2; omega)
    have SZ5 := Lib.hid (show w.heap.size ≤ w5.heap.size from Nat.le_trans HH.out.2.2.2.2.2.1.size C5.out.size)
    have HBS5 := Lib.hid (Nat.le_trans HBS.out.1 SZ5.out)
    have FINAL := Lib.hid (show ∀ v6 w6, w6.ownsRow base 218 2 v6 (k + 1) (cs ++ [.int .i64 n, .slice A m c]) → w5.grownBy w6 wtv.ownBlock → (v6.ownBlock = wtv.ownBlock ∨ v6.ownBlock = some w5.heap.size) → w6.cell? ⟨gf, 2, none⟩ = some wtv ∧ w6.frozen? ⟨gf, 2, none⟩ = false ∧ (∃ nv' wtv', MedB (w6.setCell ⟨gf, 2, none⟩ v6) g room bn bf wv L2 O2 ∧ FileB (w6.setCell ⟨gf, 2, none⟩ v6) gf nv' fv wtv' ∧ (w6.setCell ⟨gf, 2, none⟩ v6).ownsRow base 5 1 nv' (n + m) (bytesV (l ++ x)) ∧ (w6.setCell ⟨gf, 2, none⟩ v6).ownsRow base 218 2 wtv' (k + 1) (cs ++ [.int .i64 n, .slice A m c]) ∧ Chg w (w6.setCell ⟨gf, 2, none⟩ v6) (wrS g gf nv wtv) ∧ (nv'.ownBlock = nv.ownBlock ∨ ∃ j, nv'.ownBlock = some j ∧ w.heap.size ≤ j) ∧ (wtv'.ownBlock = wtv.ownBlock ∨ ∃ j, wtv'.ownBlock = some j ∧ w.heap.size ≤ j)) by
      intro v6 w6 r6 gr6 loc6
      have C6 := Chg.of_grown (S := fun x => wtv.ownBlock = some x) gr6 (fun k e _ => e)
      have F6 : FileB w6 gf nv' fv wtv := C6.blk F5.out (fun e => NE.out.2.2.2.2.1 e)
      have M6 : MedB w6 g room bn bf wv L2 O2 := C6.blk (C5.out.blk HH.out.1 (fun h => h)) (fun e => NE.out.2.2.2.1 e)
      have o5 := C5.out.own HH.out.2.2.1 (fun _ _ h => h)
      have o6 := C6.own o5 (fun k e q => own_own_ne o5 T5.out (by decide) k e q)
      have C7 := Chg.of_grown (S := fun x => x = gf) (grownBy_set w6 gf 2 v6) (fun k e _ => by injection e with e; exact e.symm)
      have NV6 : v6.ownBlock ≠ some gf := own_ne r6 F6 (by decide)
      have NN6 : nv'.ownBlock ≠ some gf := own_ne o6 F6 (by decide)
      refine ⟨Blk.cell F6 2, Blk.frozen F6 2, nv', v6, C7.blk M6 (fun e => NE.out.1 e), Blk.setc F6 2 v6, C7.own o6 (fun k e q => NN6 (q ▸ e)), C7.own r6 (fun k e q => NV6 (q ▸ e)), ?_, HH.out.2.2.2.2.2.2, ?_⟩
      · have a1 := Chg.trans HH.out.2.2.2.2.2.1 C5.out (fun x _ h => h.elim)
        have a2 := Chg.trans a1 C6 (fun x _ h => .inr (.inr (.inr h)))
        exact Chg.trans a2 C7 (fun x _ h => .inr (.inl h))
      · rcases loc6 with h | h
        · exact .inl h
        · exact .inr ⟨_, h, SZ5.out⟩)
    have k0 : wf.cell? ⟨gc, 0, none⟩ = some (.int .i64 n) := Blk.cell Bf.out 0
    have k1 : wf.cell? ⟨gc, 1, none⟩ = some (.slice A m c) := Blk.cell Bf.out 1
    have c3 : wf.cell? ⟨gf, 2, none⟩ = some wtv := Blk.cell Ff.out 2
    have c4 : w5.cell? ⟨gf, 2, none⟩ = some wtv := Blk.cell F5.out 2
    have HWF := Lib.hid hwf
    clear hwf hw5 hg5
    go_upto_region 5 with fail
    go_cut [6] (fun ev wx => ev = .int .i64 0 ∧ ∃ nv' wtv', MedB wx g room bn bf wv L2 O2 ∧ FileB wx gf nv' fv wtv' ∧ wx.ownsRow base 5 1 nv' (n + m) (bytesV (l ++ x)) ∧ wx.ownsRow base 218 2 wtv' (k + 1) (cs ++ [.int .i64 n, .slice A m c]) ∧ Chg w wx (wrS g gf nv wtv) ∧ (nv'.ownBlock = nv.ownBlock ∨ ∃ j, nv'.ownBlock = some j ∧ w.heap.size ≤ j) ∧ (wtv'.ownBlock = wtv.ownBlock ∨ ∃ j, wtv'.ownBlock = some j ∧ w.heap.size ≤ j))
    case first =>
      refine wp_region_any (by kernel_rfl) ?_
      change wpAny _ _ _ _ _ _ _ wc.drew
      rw [← HWF.out]
      try simp only [Act.put, List.setIfInBounds_toArray, List.set_cons_zero, List.set_cons_succ]
      refine wpAny_take (i := 0) (v := .pointer (some ⟨gf, 0, none⟩)) rfl (by kernel_rfl) (by kernel_rfl) (by kernel_rfl) (fun _ _ _ h => h) (Or.inl ⟨by kernel_rfl, fun w => by go_simp⟩) ?_
      try simp only [Act.put, List.setIfInBounds_toArray, List.set_cons_zero, List.set_cons_succ]
      refine wpAny_take (i := 1) (v := .pointer (some ⟨gf, 0, none⟩)) rfl (by kernel_rfl) (by kernel_rfl) (by kernel_rfl) (fun _ _ _ h => h) (Or.inl ⟨by kernel_rfl, fun w => by go_simp⟩) ?_
      try simp only [Act.put, List.setIfInBounds_toArray, List.set_cons_zero, List.set_cons_succ]
      refine wpAny_take (i := 2) (v := .pointer (some ⟨gf, 0, none⟩)) rfl (by kernel_rfl) (by kernel_rfl) (by kernel_rfl) (fun _ _ _ h => h) (Or.inl ⟨by kernel_rfl, fun w => by go_simp⟩) ?_
      try simp only [Act.put, List.setIfInBounds_toArray, List.set_cons_zero, List.set_cons_succ]
      refine wpAny_take (i := 3) (v := .pointer (some ⟨gf, 2, none⟩)) rfl (by kernel_rfl) (by kernel_rfl) (by kernel_rfl) (fun _ _ _ h => h) (Or.inl ⟨by kernel_rfl, fun w => by go_simp⟩) ?_
      try simp only [Act.put, List.setIfInBounds_toArray, List.set_cons_zero, List.set_cons_succ]
      refine wpAny_ready (rs := [4, 5]) (by kernel_rfl) (by simp) ?_
      refine AllReady.cons (o := ⟨some 26, .load 199 (.tmp 25), _, _, _, none⟩) rfl (fun K' hK' => ?_) (AllReady.cons (o := ⟨some 27, .load 218 (.tmp 5), _, _, _, none⟩) rfl (fun K' hK' => ?_) AllReady.nil)
      · have HK' := Lib.hid hK'
        clear hK'
        rw [if_pos (by kernel_rfl)]
        go_simp
        refine HK'.out _ _ ?_
        clear HK' K'
        try simp only [Act.put, List.setIfInBounds_toArray, List.set_cons_zero, List.set_cons_succ]
        refine wpAny_ready (rs := [5]) (by kernel_rfl) (by simp) ?_
        refine AllReady.cons (o := ⟨some 27, .load 218 (.tmp 5), _, _, _, none⟩) rfl (fun K' hK' => ?_) AllReady.nil
        have HK' := Lib.hid hK'
        clear hK'
        rw [if_pos (by kernel_rfl)]
        go_simp
        refine HK'.out _ _ ?_
        clear HK' K'
        try simp only [Act.put, List.setIfInBounds_toArray, List.set_cons_zero, List.set_cons_succ]
        refine wpAny_ready (rs := [6]) (by kernel_rfl) (by simp) ?_
        refine AllReady.cons (o := ⟨some 28, .buildSlice 199 1 #[(0, .tmp 27)], _, _, _, none⟩) rfl (fun K' hK' => ?_) AllReady.nil
        have HK' := Lib.hid hK'
        clear hK'
        rw [if_pos (by kernel_rfl)]
        with_reducible refine step_boxCh wf (.tmp 27) (by kernel_rfl) n A m c (by kernel_rfl) ?_
        rw [← HW5.out, ← HG5.out]
        refine HK'.out _ _ ?_
        clear HK' K'
        try simp only [Act.put, List.setIfInBounds_toArray, List.set_cons_zero, List.set_cons_succ]
        refine wpAny_ready (rs := [7]) (by kernel_rfl) (by simp) ?_
        refine AllReady.cons (o := ⟨some 29, .call { callee := .builtin .append, args := #[.tmp 26, .tmp 28], argTypes := #[199, 199] }, _, _, _, none⟩) rfl (fun K' hK' => ?_) AllReady.nil
        have HK' := Lib.hid hK'
        clear hK'
        rw [if_pos (by kernel_rfl)]
        with_reducible refine step_pushCh w5 (.tmp 26) (.tmp 28) (by kernel_rfl) base wtv k cs (by kernel_rfl) T5.out g5 [.int .i64 n, .slice A m c] (by kernel_rfl) GC5.out rfl ONE.out HK6.out HBS5.out ?_
        intro v6 w6 r6 gr6 loc6
        refine HK'.out _ _ ?_
        clear HK' K'
        obtain ⟨d3, f3, FIN⟩ := FINAL.out v6 w6 r6 gr6 loc6
        obtain ⟨A6, c6, rfl⟩ := own_formV r6
        clear r6 gr6 loc6
        try simp only [Act.put, List.setIfInBounds_toArray, List.set_cons_zero, List.set_cons_succ]
        refine wpAny_take (i := 8) (v := .pointer (some ⟨gf, 0, none⟩)) rfl (by kernel_rfl) (by kernel_rfl) (by kernel_rfl) (fun _ _ _ h => h) (Or.inl ⟨by kernel_rfl, fun w => by go_simp⟩) ?_
        try simp only [Act.put, List.setIfInBounds_toArray, List.set_cons_zero, List.set_cons_succ]
        refine wpAny_take (i := 9) (v := .pointer (some ⟨gf, 2, none⟩)) rfl (by kernel_rfl) (by kernel_rfl) (by kernel_rfl) (fun _ _ _ h => h) (Or.inl ⟨by kernel_rfl, fun w => by go_simp⟩) ?_
        try simp only [Act.put, List.setIfInBounds_toArray, List.set_cons_zero, List.set_cons_succ]
        refine wpAny_ready (rs := [10]) (by kernel_rfl) (by simp) ?_
        refine AllReady.cons (o := ⟨none, .store 199 (.tmp 31) (.tmp 29), _, _, _, none⟩) rfl (fun K' hK' => ?_) AllReady.nil
        have HK' := Lib.hid hK'
        clear hK'
        rw [if_pos (by kernel_rfl)]
        go_simp
        refine HK'.out _ _ ?_
        clear HK' K'
        try simp only [Act.put, List.setIfInBounds_toArray, List.set_cons_zero, List.set_cons_succ]
        refine wpAny_done (by kernel_rfl) ?_ _
        go_simp
        go_wp2_with fail
        go_meet
        exact ⟨rfl, FIN⟩
      · have HK' := Lib.hid hK'
        clear hK'
        rw [if_pos (by kernel_rfl)]
        go_simp
        refine HK'.out _ _ ?_
        clear HK' K'
        try simp only [Act.put, List.setIfInBounds_toArray, List.set_cons_zero, List.set_cons_succ]
        refine wpAny_ready (rs := [4, 6]) (by kernel_rfl) (by simp) ?_
        refine AllReady.cons (o := ⟨some 26, .load 199 (.tmp 25), _, _, _, none⟩) rfl (fun K' hK' => ?_) (AllReady.cons (o := ⟨some 28, .buildSlice 199 1 #[(0, .tmp 27)], _, _, _, none⟩) rfl (fun K' hK' => ?_) AllReady.nil)
        · have HK' := Lib.hid hK'
          clear hK'
          rw [if_pos (by kernel_rfl)]
          go_simp
          refine HK'.out _ _ ?_
          clear HK' K'
          try simp only [Act.put, List.setIfInBounds_toArray, List.set_cons_zero, List.set_cons_succ]
          refine wpAny_ready (rs := [6]) (by kernel_rfl) (by simp) ?_
          refine AllReady.cons (o := ⟨some 28, .buildSlice 199 1 #[(0, .tmp 27)], _, _, _, none⟩) rfl (fun K' hK' => ?_) AllReady.nil
          have HK' := Lib.hid hK'
          clear hK'
          rw [if_pos (by kernel_rfl)]
          with_reducible refine step_boxCh wf (.tmp 27) (by kernel_rfl) n A m c (by kernel_rfl) ?_
          rw [← HW5.out, ← HG5.out]
          refine HK'.out _ _ ?_
          clear HK' K'
          try simp only [Act.put, List.setIfInBounds_toArray, List.set_cons_zero, List.set_cons_succ]
          refine wpAny_ready (rs := [7]) (by kernel_rfl) (by simp) ?_
          refine AllReady.cons (o := ⟨some 29, .call { callee := .builtin .append, args := #[.tmp 26, .tmp 28], argTypes := #[199, 199] }, _, _, _, none⟩) rfl (fun K' hK' => ?_) AllReady.nil
          have HK' := Lib.hid hK'
          clear hK'
          rw [if_pos (by kernel_rfl)]
          with_reducible refine step_pushCh w5 (.tmp 26) (.tmp 28) (by kernel_rfl) base wtv k cs (by kernel_rfl) T5.out g5 [.int .i64 n, .slice A m c] (by kernel_rfl) GC5.out rfl ONE.out HK6.out HBS5.out ?_
          intro v6 w6 r6 gr6 loc6
          refine HK'.out _ _ ?_
          clear HK' K'
          obtain ⟨d3, f3, FIN⟩ := FINAL.out v6 w6 r6 gr6 loc6
          obtain ⟨A6, c6, rfl⟩ := own_formV r6
          clear r6 gr6 loc6
          try simp only [Act.put, List.setIfInBounds_toArray, List.set_cons_zero, List.set_cons_succ]
          refine wpAny_take (i := 8) (v := .pointer (some ⟨gf, 0, none⟩)) rfl (by kernel_rfl) (by kernel_rfl) (by kernel_rfl) (fun _ _ _ h => h) (Or.inl ⟨by kernel_rfl, fun w => by go_simp⟩) ?_
          try simp only [Act.put, List.setIfInBounds_toArray, List.set_cons_zero, List.set_cons_succ]
          refine wpAny_take (i := 9) (v := .pointer (some ⟨gf, 2, none⟩)) rfl (by kernel_rfl) (by kernel_rfl) (by kernel_rfl) (fun _ _ _ h => h) (Or.inl ⟨by kernel_rfl, fun w => by go_simp⟩) ?_
          try simp only [Act.put, List.setIfInBounds_toArray, List.set_cons_zero, List.set_cons_succ]
          refine wpAny_ready (rs := [10]) (by kernel_rfl) (by simp) ?_
          refine AllReady.cons (o := ⟨none, .store 199 (.tmp 31) (.tmp 29), _, _, _, none⟩) rfl (fun K' hK' => ?_) AllReady.nil
          have HK' := Lib.hid hK'
          clear hK'
          rw [if_pos (by kernel_rfl)]
          go_simp
          refine HK'.out _ _ ?_
          clear HK' K'
          try simp only [Act.put, List.setIfInBounds_toArray, List.set_cons_zero, List.set_cons_succ]
          refine wpAny_done (by kernel_rfl) ?_ _
          go_simp
          go_wp2_with fail
          go_meet
          exact ⟨rfl, FIN⟩
        · have HK' := Lib.hid hK'
          clear hK'
          rw [if_pos (by kernel_rfl)]
          with_reducible refine step_boxCh wf (.tmp 27) (by kernel_rfl) n A m c (by kernel_rfl) ?_
          rw [← HW5.out, ← HG5.out]
          refine HK'.out _ _ ?_
          clear HK' K'
          try simp only [Act.put, List.setIfInBounds_toArray, List.set_cons_zero, List.set_cons_succ]
          refine wpAny_ready (rs := [4]) (by kernel_rfl) (by simp) ?_
          refine AllReady.cons (o := ⟨some 26, .load 199 (.tmp 25), _, _, _, none⟩) rfl (fun K' hK' => ?_) AllReady.nil
          have HK' := Lib.hid hK'
          clear hK'
          rw [if_pos (by kernel_rfl)]
          go_simp
          refine HK'.out _ _ ?_
          clear HK' K'
          try simp only [Act.put, List.setIfInBounds_toArray, List.set_cons_zero, List.set_cons_succ]
          refine wpAny_ready (rs := [7]) (by kernel_rfl) (by simp) ?_
          refine AllReady.cons (o := ⟨some 29, .call { callee := .builtin .append, args := #[.tmp 26, .tmp 28], argTypes := #[199, 199] }, _, _, _, none⟩) rfl (fun K' hK' => ?_) AllReady.nil
          have HK' := Lib.hid hK'
          clear hK'
          rw [if_pos (by kernel_rfl)]
          with_reducible refine step_pushCh w5 (.tmp 26) (.tmp 28) (by kernel_rfl) base wtv k cs (by kernel_rfl) T5.out g5 [.int .i64 n, .slice A m c] (by kernel_rfl) GC5.out rfl ONE.out HK6.out HBS5.out ?_
          intro v6 w6 r6 gr6 loc6
          refine HK'.out _ _ ?_
          clear HK' K'
          obtain ⟨d3, f3, FIN⟩ := FINAL.out v6 w6 r6 gr6 loc6
          obtain ⟨A6, c6, rfl⟩ := own_formV r6
          clear r6 gr6 loc6
          try simp only [Act.put, List.setIfInBounds_toArray, List.set_cons_zero, List.set_cons_succ]
          refine wpAny_take (i := 8) (v := .pointer (some ⟨gf, 0, none⟩)) rfl (by kernel_rfl) (by kernel_rfl) (by kernel_rfl) (fun _ _ _ h => h) (Or.inl ⟨by kernel_rfl, fun w => by go_simp⟩) ?_
          try simp only [Act.put, List.setIfInBounds_toArray, List.set_cons_zero, List.set_cons_succ]
          refine wpAny_take (i := 9) (v := .pointer (some ⟨gf, 2, none⟩)) rfl (by kernel_rfl) (by kernel_rfl) (by kernel_rfl) (fun _ _ _ h => h) (Or.inl ⟨by kernel_rfl, fun w => by go_simp⟩) ?_
          try simp only [Act.put, List.setIfInBounds_toArray, List.set_cons_zero, List.set_cons_succ]
          refine wpAny_ready (rs := [10]) (by kernel_rfl) (by simp) ?_
          refine AllReady.cons (o := ⟨none, .store 199 (.tmp 31) (.tmp 29), _, _, _, none⟩) rfl (fun K' hK' => ?_) AllReady.nil
          have HK' := Lib.hid hK'
          clear hK'
          rw [if_pos (by kernel_rfl)]
          go_simp
          refine HK'.out _ _ ?_
          clear HK' K'
          try simp only [Act.put, List.setIfInBounds_toArray, List.set_cons_zero, List.set_cons_succ]
          refine wpAny_done (by kernel_rfl) ?_ _
          go_simp
          go_wp2_with fail
          go_meet
          exact ⟨rfl, FIN⟩
    case rest =>
      obtain ⟨rfl, hh⟩ := hcut
      have H9 := Lib.hid hh
      clear hh
      go_wp2_with fail
      go_ret
      exact ⟨rfl, H9.out⟩
end Go.Proofs.YtblgphfdicffcaaGreatDoor

/- Contract: how many bytes all files have. It proves no statement. -/


namespace Go.Proofs.YtblgphfdicffcaaGreatDoor
open Go.RowKit Go.Maps Go.WideMaps
set_option linter.unusedVariables false
set_option linter.unusedSimpArgs false

/-- The file that a datum names. -/
def fdOf : DataW Unit → Int
  | .lit (.int .i64 f) => f
  | _ => -1
/-- All sizes of entries that are still to come. -/
def sumL (sz : Int → Nat) (left : Lit → Bool) : List (Lit × DataW Unit) → Nat
  | [] => 0
  | p :: es => (if left p.1 = true then sz (fdOf p.2) else 0) + sumL sz left es
def entriesOf : DataW Unit → List (Lit × DataW Unit)
  | .map es => es
  | _ => []
def usedOf (sz : Int → Nat) (D : DataW Unit) : Nat := sumL sz (fun _ => true) (entriesOf D)
theorem sumL_false (sz : Int → Nat) (left : Lit → Bool) (h : ∀ k, left k = false) : ∀ es, sumL sz left es = 0
  | [] => rfl
  | p :: es => by rw [sumL, sumL_false sz left h es, h p.1]; rfl
theorem sumL_has (sz : Int → Nat) (left : Lit → Bool) : ∀ es : List (Lit × DataW Unit), (∀ p ∈ es, left p.1 = true) → sumL sz left es = sumL sz (fun _ => true) es
  | [], _ => rfl
  | p :: es, h => by rw [sumL, sumL, sumL_has sz left es (fun q hq => h q (by simp [hq])), h p (by simp)]
theorem sumL_le (sz : Int → Nat) (left : Lit → Bool) : ∀ es : List (Lit × DataW Unit), sumL sz left es ≤ sumL sz (fun _ => true) es
  | [] => Nat.le_refl _
  | p :: es => by
    rw [sumL, sumL]
    have := sumL_le sz left es
    simp only [if_true]
    split <;> omega
theorem sumL_other (sz : Int → Nat) (left : Lit → Bool) (k : Lit) : ∀ es : List (Lit × DataW Unit), (∀ p ∈ es, p.1 ≠ k) → sumL sz (fun z => left z && !z.sameKey k) es = sumL sz left es
  | [], _ => rfl
  | p :: es, h => by
    rw [sumL, sumL, sumL_other sz left k es (fun q hq => h q (by simp [hq])), sameKey_ne (h p (by simp))]
    simp
theorem sumL_split (sz : Int → Nat) (left : Lit → Bool) (k : Lit) (v : DataW Unit) (hk : WideAt.IsKeyLit k) (hl : left k = true) : ∀ es : List (Lit × DataW Unit), es.Pairwise (fun p q => p.1 ≠ q.1) → (k, v) ∈ es → sumL sz left es = sz (fdOf v) + sumL sz (fun z => left z && !z.sameKey k) es
  | [], _, h => by simp at h
  | p :: es, hp, h => by
    rw [List.pairwise_cons] at hp
    rcases List.mem_cons.1 h with h | h
    · subst h
      rw [sumL, sumL, sumL_other sz left k es (fun q hq e => hp.1 q hq e.symm), WideAt.sameKey_self hk, hl]
      simp
    · have hne : p.1 ≠ k := hp.1 (k, v) h
      rw [sumL, sumL, sumL_split sz left k v hk hl es hp.2 h, sameKey_ne hne]
      simp only [Bool.not_false, Bool.and_true]
      omega
theorem entry_mem {D : DataW Unit} {k : Lit} {y : DataW Unit} (h : ∀ z, D.atKey k z = y) : ∃ p ∈ entriesOf D, p.1.sameKey k = true ∧ p.2 = y := by
  have hh := has_true_of_atKey h
  cases D with
  | map es =>
    rw [has_eq, List.any_eq_true] at hh
    have h1 := h (fd 0)
    unfold DataW.atKey at h1
    simp only at h1
    cases hf : es.find? (fun p => p.1.sameKey k) with
    | none =>
      obtain ⟨p, hp, hs⟩ := hh
      rw [List.find?_eq_none] at hf
      exact absurd hs (hf p hp)
    | some p =>
      rw [hf] at h1
      exact ⟨p, List.mem_of_find?_eq_some hf, by simpa using List.find?_some hf, h1⟩
  | _ => simp [Maps.has] at hh
/-- Each file that a map names has a row of so many bytes. -/
def Sized (w : World) (D : DataW Unit) (sz : Int → Nat) : Prop := ∀ p ∈ entriesOf D, ∃ f : Nat, p.2 = fd f ∧ ∃ A c b d, FileB w f (.slice A (sz f) c) b d
theorem Sized.chg {w w' : World} {D : DataW Unit} {sz : Int → Nat} {S : Nat → Prop} (h : Sized w D sz) (c : Chg w w' S) (hS : ∀ p ∈ entriesOf D, ∀ f : Nat, p.2 = fd f → ¬ S f) : Sized w' D sz := by
  intro p hp
  obtain ⟨f, e, A, cc, b, d, hb⟩ := h p hp
  exact ⟨f, e, A, cc, b, d, c.blk hb (hS p hp f e)⟩
theorem keyOf_str_inv {key : Value} {k : Lit} (h : keyOf Tryz.prog 9 key = some k) : ∃ s : ByteArray, key = .string s := by
  obtain ⟨s, hs, _⟩ := string_of_keyOf Tryz.underlying9 h
  exact ⟨s, hs⟩
set_option maxRecDepth 100000 in
set_option maxHeartbeats 1600000 in
theorem used_yes {w : World} {g : Nat} {room : Int} {bn bf : Nat} {wv : Value} {left : Int} (h : MedB w g room bn bf wv left false) (n : Nat) (D : DataW Unit) (hown : NM w bn n D) (sz : Int → Nat) (hsz : Sized w D sz) (hu : usedOf sz D ≤ 35184372088832) :
    Calls Tryz.prog 251 #[.pointer (some ⟨g, 0, none⟩)] w fun e w' => e = .returned (.int .i64 (usedOf sz D : Nat)) ∧ Still w w' := by
  have WK := Lib.hid (works_yes h)
  rw [show (if false = true then (12 : Int) else 0) = 0 from rfl] at WK
  have c1 : w.cell? ⟨g, 1, none⟩ = some (.map (some bn)) := Blk.cell h 1
  have HO := Lib.hid hown
  have HSZ := Lib.hid hsz
  obtain ⟨es, hes, hpw, hkl⟩ := hown.entries mapLaw
  have HES := Lib.hid (And.intro hes (And.intro hpw hkl))
  obtain ⟨U, hU⟩ : ∃ U, U = usedOf sz D := ⟨_, rfl⟩
  rw [← hU] at hu ⊢
  have HU := Lib.hid hU
  have HLT := Lib.hid hown.lt
  clear h hown hsz hes hpw hkl hU
  go_enter Tryz.func251, Tryz.ntmps251
  go_wp2_with fail
  refine WK.out.mono ?_
  rintro e w2 ⟨rfl, rfl⟩
  go_wp2_with (at_range; go_must (refine wpList_range_own _ rfl _ 133 rfl 9 153 mapLaw underNames _ bn n D rfl HO.out ?_; intro w0 hrg0 hg0 hs0))
  go_frame
  obtain ⟨r, hr⟩ : ∃ r, r = w.heap.size := ⟨_, rfl⟩
  rw [← hr] at hrg0 ⊢
  have HR := Lib.hid hr
  have HG0 := Lib.hid (show Still w w0 from ⟨hg0.os, hg0.tape, hg0.output, hg0.size, fun k hk => hg0.block k hk (by simp)⟩)
  have HRG := Lib.hid hrg0
  clear hr hg0 hs0 hrg0
  go_loopw [3] (fun nv wr => ∃ (acc : Nat) (left : Lit → Bool) (cnt : Nat), nv = .int .i64 acc ∧ Hid (wr.ranges Tryz.prog 9 ptrElem bn r n D left cnt ∧ acc + sumL sz left es = U ∧ Still w wr)) (fun _ wr => wr.rangeLeft bn r)
  case atStart =>
    refine ⟨0, _, _, rfl, HRG.out, ?_, HG0.out⟩
    rw [HU.out, HES.out.1, Nat.zero_add]
    refine sumL_has sz _ es (fun p hp => ?_)
    rw [has_eq, List.any_eq_true]
    exact ⟨p, hp, WideAt.sameKey_self (HES.out.2.2 p hp)⟩
  case round =>
    obtain ⟨acc, left, cnt, rfl, hh⟩ := hrel
    have hacc : acc ≤ U := by have := hh.out.2.1; omega
    go_wp2_with (at_next; go_must (refine wpList_next_ranges _ rfl _ rfl 9 mapLaw ptrElem (fun s : ByteArray => Value.string s) (fun f : Int => pv f) (fun key k h => keyOf_str_inv h) (fun v y h => by obtain ⟨f, _, h1, _⟩ := ptrElem_inv h; exact ⟨f, h1⟩) bn r n D left cnt rfl hh.out.1 ?_ ?_))
    · intro hc0 hl0
      have E := Lib.hid (show acc = U by have := hh.out.2.1; rw [sumL_false sz left hl0 es] at this; omega)
      have ST := Lib.hid hh.out.2.2
      clear hh hc0 hl0
      go_wp2_with fail
      go_ret
      exact ⟨by rw [E.out]; rfl, ST.out⟩
    · intro s f k y yp w1 cnt1 hkey hlk hv hat hrg1 hlt hg1 hs1 hen
      obtain ⟨pe, hpe, hpk, hpy⟩ := entry_mem hat
      obtain ⟨f0, hf0, A, c, fb, fc, hfb⟩ := HSZ.out pe hpe
      have ey : y = fd (f0 : Int) := hpy.symm.trans hf0
      have ef : pv f = .pointer (some ⟨f0, 0, none⟩) := by
        obtain ⟨f', _, h1, h2⟩ := ptrElem_inv hv
        have h3 : fd (f0 : Int) = fd f' := by rw [← ey]; exact congrArg Prod.fst h2
        have h4 : (f0 : Int) = f' := by
          simp only [fd, DataW.lit.injEq, Lit.int.injEq, true_and] at h3
          exact h3
        rw [h1, ← h4, pv_at]
      have hkk : pe.1 = k := WideAt.sameKey_eq hpk
      have hfd : fdOf y = (f0 : Int) := by rw [ey]; rfl
      have hsp : sumL sz left es = sz (f0 : Int) + sumL sz (fun z => left z && !z.sameKey k) es := by
        have h := sumL_split sz left k y (by rw [← hkk]; exact HES.out.2.2 pe (by have := hpe; rw [HES.out.1] at this; exact this)) hlk es HES.out.2.1 (by
          have h1 : pe ∈ es := by have := hpe; rw [HES.out.1] at this; exact this
          have h2 : pe = (k, y) := by rw [← hkk, ← hpy]
          rw [← h2]; exact h1)
        rw [hfd] at h
        exact h
      have hacc2 : acc + sz (f0 : Int) ≤ U := by have := hh.out.2.1; omega
      have ST1 := Lib.hid (show Still w w1 from hh.out.2.2.grown hg1 hh.out.2.2.size (fun j hj => by injection hj with hj; rw [← hj, HR.out]; exact Nat.le_refl _))
      have q0 : w1.cell? ⟨f0, 0, none⟩ = some (.slice A (sz (f0 : Int)) c) := Blk.cell (Blk.still hfb ST1.out) 0
      rw [ef] at hen ⊢
      have HRG1 := Lib.hid (And.intro hrg1 hlt)
      have HH := Lib.hid (And.intro hh.out.1.left_eq (show acc + sz (f0 : Int) + sumL sz (fun z => left z && !z.sameKey k) es = U by have := hh.out.2.1; omega))
      obtain ⟨z, hz⟩ : ∃ z, z = sz (f0 : Int) := ⟨_, rfl⟩
      rw [← hz] at q0 hacc2 HH
      clear pe hpe hpk hpy hf0 hfb ey ef hkk hfd hsp hh hkey hlk hv hat hrg1 hlt hg1 hs1 hz
      go_wp2_with fail
      go_roundw
      case rel => exact ⟨acc + z, _, cnt1, by go_num, HRG1.out.1, HH.out.2, ST1.out⟩
      case measure => rw [HRG1.out.1.left_eq, HH.out.1]; exact HRG1.out.2
end Go.Proofs.YtblgphfdicffcaaGreatDoor
