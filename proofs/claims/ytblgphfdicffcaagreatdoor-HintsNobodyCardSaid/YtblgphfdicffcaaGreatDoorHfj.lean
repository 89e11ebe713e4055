/- Contracts and facts, several texts in one. It proves no statement. -/
import Derived.Test.YtblgphfdicffcaaGreatDoorHfd
import Derived.Test.YtblgphfdicffcaaGreatDoorHff
import Derived.Test.YtblgphfdicffcaaGreatDoorHfe

/- Contract: a step that changes a file's bytes: whatever change. It proves no statement. -/


namespace Go.Proofs.YtblgphfdicffcaaGreatDoor
open Go.RowKit Go.Maps Go.WideMaps
set_option linter.unusedVariables false
set_option linter.unusedSimpArgs false

set_option maxRecDepth 100000 in
set_option maxHeartbeats 3200000 in
theorem write_any {w : World} {g : Nat} {room : Int} {bn bf : Nat} {wv : Value} {left : Int} {off : Bool} (h : MedB w g room bn bf wv left off) (hl : left ≤ 9223372036854775807) (he : (stepR left off).2.2 = 0)
    (gf n en base k : Nat) (nv fv wtv : Value) (l x : List UInt8) (cs : List Value) (A : Option Addr) (m c B : Nat) (hf : FileB w gf nv fv wtv) (hnv : w.ownsRow base 5 1 nv n (bytesV l)) (hwt : w.ownsRow base 218 2 wtv k cs) (hbase : base ≤ w.heap.size)
    (hr : Reads w B A m x) (hB : B ≤ w.heap.size) (hfar : ∀ ad, A = some ad → 0 < m → ad.block ≠ g) (hA : A = none → c = 0) (hen : en ≤ n) (hnm : en + m ≤ 100000000) (hk : k ≤ 1000000) :
    Calls Tryz.prog 252 #[.pointer (some ⟨g, 0, none⟩), .pointer (some ⟨gf, 0, none⟩), .agg #[.int .i64 en, .slice A m c]] w fun e w' => e = .returned (.int .i64 0) ∧ ∃ nv' wtv', MedB w' g room bn bf wv (stepR left off).1 (stepR left off).2.1 ∧ FileB w' gf nv' fv wtv' ∧ w'.ownsRow base 5 1 nv' (en + m) (bytesV (l.take en ++ x)) ∧ w'.ownsRow base 218 2 wtv' (k + 1) (cs ++ [.int .i64 en, .slice A m c]) ∧ Chg w w' (wrS g gf nv wtv) ∧ (nv'.ownBlock = nv.ownBlock ∨ ∃ j, nv'.ownBlock = some j ∧ w.heap.size ≤ j) ∧ (wtv'.ownBlock = wtv.ownBlock ∨ ∃ j, wtv'.ownBlock = some j ∧ w.heap.size ≤ j) := by
  obtain ⟨gc, hgc⟩ : ∃ gc, gc = w.heap.size := ⟨_, rfl⟩
  obtain ⟨w1, hw1⟩ : ∃ w1, w1 = w.alloc (.cells #[.int .i64 en, .slice A m c] 218) := ⟨_, rfl⟩
  have S1 : Still w w1 := by rw [hw1]; exact (Still.refl w).alloc (Nat.le_refl _) _
  have C1 := Chg.of_still S1 (fun _ => False)
  have hX : ∀ {x : Nat}, ¬ (fun _ : Nat => False) x := fun h => h
  have B1 : Blk w1 gc 218 #[.int .i64 en, .slice A m c] := by rw [hw1, hgc]; exact Blk.new _ _ _
  have M1 := h.still S1
  have ST := Lib.hid (step_yes M1 hl)
  rw [he] at ST
  obtain ⟨L2, hL2⟩ : ∃ L2, L2 = (stepR left off).1 := ⟨_, rfl⟩
  obtain ⟨O2, hO2⟩ : ∃ O2, O2 = (stepR left off).2.1 := ⟨_, rfl⟩
  rw [← hL2, ← hO2] at ST ⊢
  have n1 : g ≠ gf := blk_ne h hf (by decide)
  have n2 : nv.ownBlock ≠ some g := own_ne hnv h (by decide)
  have n3 : nv.ownBlock ≠ some gf := own_ne hnv hf (by decide)
  have n4 : wtv.ownBlock ≠ some g := own_ne hwt h (by decide)
  have n5 : wtv.ownBlock ≠ some gf := own_ne hwt hf (by decide)
  have n6 : ∀ j, nv.ownBlock = some j → wtv.ownBlock ≠ some j := fun j hj => own_own_ne hnv hwt (by decide) j hj
  have n7 : ∀ j, nv.ownBlock = some j → j ≠ gc := fun j hj => by rw [hgc]; exact Nat.ne_of_lt (hnv.lt j hj).2
  have n8 : gc ≠ g := by rw [hgc]; exact (Nat.ne_of_lt (Blk.lt h)).symm
  have n9 : gc ≠ gf := by rw [hgc]; exact (Nat.ne_of_lt (Blk.lt hf)).symm
  have NE := Lib.hid (And.intro n1 (And.intro n2 (And.intro n3 (And.intro n4 (And.intro n5 (And.intro n6 (And.intro n7 (And.intro n8 n9))))))))
  have HF1 := Lib.hid (C1.blk hf (fun h => h))
  have HN1 := Lib.hid (C1.own hnv (fun _ _ h => h))
  have HT1 := Lib.hid (C1.own hwt (fun _ _ h => h))
  have HR1 := Lib.hid (hr.still hB S1)
  have HC1 := Lib.hid C1
  have HB1 := Lib.hid B1
  have HW1 := Lib.hid hw1
  have HGC := Lib.hid hgc
  have HBS := Lib.hid (And.intro hbase hB)
  have HP := Lib.hid (And.intro hfar (And.intro hA (And.intro hnm hk)))
  have HEN := Lib.hid hen
  clear hen h hl he hf hnv hwt hbase hr hB hfar hA hnm hk hw1 S1 C1 B1 M1 hgc hL2 hO2 n1 n2 n3 n4 n5 n6 n7 n8 n9 hX
  go_enter Tryz.func252, Tryz.ntmps252
  go_wp2_with fail
  rw [← HW1.out, ← HGC.out]
  refine ST.out.mono ?_
  rintro e w2 ⟨rfl, m2, gr2⟩
  have C2 := Lib.hid (Chg.of_grown (S := fun x => x = g) gr2 (fun k e _ => by injection e with e; exact e.symm))
  have DW := Lib.hid (show Still w2 w2.drew from (Still.refl _).drew)
  obtain ⟨we, hwe⟩ : ∃ we, we = w2.drew := ⟨_, rfl⟩
  rw [← hwe] at DW
  have Ce := Lib.hid (Chg.trans C2.out (Chg.of_still DW.out (fun _ => False)) (fun _ _ h => h.elim))
  have Be := Lib.hid (Ce.out.blk HB1.out NE.out.2.2.2.2.2.2.2.1)
  have Me := Lib.hid (show MedB we g room bn bf wv L2 O2 from (Chg.of_still DW.out (fun _ => False)).blk m2 (fun h => h))
  have Fe := Lib.hid (show FileB we gf nv fv wtv from Ce.out.blk HF1.out (fun e => NE.out.1 e.symm))
  have Ne := Lib.hid (Ce.out.own HN1.out (fun k e q => NE.out.2.1 (q ▸ e)))
  have Te := Lib.hid (Ce.out.own HT1.out (fun k e q => NE.out.2.2.2.1 (q ▸ e)))
  have SZe := Lib.hid (show w.heap.size ≤ we.heap.size from Nat.le_trans HC1.out.size Ce.out.size)
  have Re := Lib.hid (show Reads we B A m x from by
    refine ⟨HR1.out.1, fun hn => ?_⟩
    obtain ⟨bb, o, e, hlt, hc⟩ := HR1.out.2 hn
    refine ⟨bb, o, e, hlt, fun i hi => ?_⟩
    exact (World.cell?_of_block (w := w1) (Ce.out.block bb (Nat.lt_of_lt_of_le hlt (Nat.le_trans HBS.out.2 HC1.out.size)) (fun q => HP.out.1 _ e hn q))).trans (hc i hi))
  have DO := Lib.hid (change_any nv base n en l A m c x we B Ne.out (Nat.le_trans HBS.out.1 SZe.out) Re.out (Nat.le_trans HBS.out.2 SZe.out) HP.out.2.1 HEN.out HP.out.2.2.1)
  have k0 : we.cell? ⟨gc, 0, none⟩ = some (.int .i64 en) := Blk.cell Be.out 0
  have k1 : we.cell? ⟨gc, 1, none⟩ = some (.slice A m c) := Blk.cell Be.out 1
  have c0 : we.cell? ⟨gf, 0, none⟩ = some nv := Blk.cell Fe.out 0
  have HWE := Lib.hid hwe
  have MID := Lib.hid (show ∀ v3 w3, w3.ownsRow base 5 1 v3 (en + m) (bytesV (l.take en ++ x)) → we.grownBy w3 nv.ownBlock → (v3.ownBlock = nv.ownBlock ∨ ∃ j, v3.ownBlock = some j ∧ we.heap.size ≤ j) → w3.cell? ⟨gf, 0, none⟩ = some nv ∧ w3.frozen? ⟨gf, 0, none⟩ = false ∧ MedB (w3.setCell ⟨gf, 0, none⟩ v3) g room bn bf wv L2 O2 ∧ FileB (w3.setCell ⟨gf, 0, none⟩ v3) gf v3 fv wtv ∧ (w3.setCell ⟨gf, 0, none⟩ v3).ownsRow base 5 1 v3 (en + m) (bytesV (l.take en ++ x)) ∧ (w3.setCell ⟨gf, 0, none⟩ v3).ownsRow base 218 2 wtv k cs ∧ Blk (w3.setCell ⟨gf, 0, none⟩ v3) gc 218 #[.int .i64 en, .slice A m c] ∧ Chg w (w3.setCell ⟨gf, 0, none⟩ v3) (wrS g gf nv wtv) ∧ (v3.ownBlock = nv.ownBlock ∨ ∃ j, v3.ownBlock = some j ∧ w.heap.size ≤ j) by
    intro v3 w3 o3 gr3 lo3
    have C3 := Chg.of_grown (S := fun x => nv.ownBlock = some x) gr3 (fun k e _ => e)
    have F3 : FileB w3 gf nv fv wtv := C3.blk Fe.out (fun e => NE.out.2.2.1 e)
    have C4 := Chg.of_grown (S := fun x => x = gf) (grownBy_set w3 gf 0 v3) (fun k e _ => by injection e with e; exact e.symm)
    have NV : v3.ownBlock ≠ some gf := own_ne o3 F3 (by decide)
    refine ⟨Blk.cell F3 0, Blk.frozen F3 0, C4.blk (C3.blk Me.out (fun e => NE.out.2.1 e)) (fun e => NE.out.1 e), Blk.setc F3 0 v3, C4.own o3 (fun k e q => NV (q ▸ e)), C4.own (C3.own Te.out (fun k e q => NE.out.2.2.2.2.2.1 k q e)) (fun k e q => NE.out.2.2.2.2.1 (q ▸ e)), C4.blk (C3.blk Be.out (fun e => NE.out.2.2.2.2.2.2.1 _ e rfl)) (fun e => NE.out.2.2.2.2.2.2.2.2 e), ?_, ?_⟩
    · have a1 := Chg.trans (S := wrS g gf nv wtv) (HC1.out.mono (fun _ _ h => h.elim)) Ce.out (fun x _ h => .inl h)
      have a2 := Chg.trans a1 C3 (fun x _ h => .inr (.inr (.inl h)))
      exact Chg.trans a2 C4 (fun x _ h => .inr (.inl h))
    · rcases lo3 with h | ⟨j, h, hj⟩
      · exact .inl h
      · exact .inr ⟨j, h, Nat.le_trans SZe.out hj⟩)
  clear m2 gr2 hwe ST
  go_upto_region 4 with fail
  go_cut [6] (fun ev wx => ev = .int .i64 0 ∧ ∃ nv', MedB wx g room bn bf wv L2 O2 ∧ FileB wx gf nv' fv wtv ∧ wx.ownsRow base 5 1 nv' (en + m) (bytesV (l.take en ++ x)) ∧ wx.ownsRow base 218 2 wtv k cs ∧ Blk wx gc 218 #[.int .i64 en, .slice A m c] ∧ Chg w wx (wrS g gf nv wtv) ∧ (nv'.ownBlock = nv.ownBlock ∨ ∃ j, nv'.ownBlock = some j ∧ w.heap.size ≤ j))
  case first =>
    refine wp_region_any (by kernel_rfl) ?_
    change wpAny _ _ _ _ _ _ _ w2.drew
    rw [← HWE.out]
    try simp only [Act.put, List.setIfInBounds_toArray, List.set_cons_zero, List.set_cons_succ]
    refine wpAny_take (i := 0) (v := .pointer (some ⟨gf, 0, none⟩)) rfl (by kernel_rfl) (by kernel_rfl) (by kernel_rfl) (fun _ _ _ h => h) (Or.inl ⟨by kernel_rfl, fun w => by go_simp⟩) ?_
    try simp only [Act.put, List.setIfInBounds_toArray, List.set_cons_zero, List.set_cons_succ]
    refine wpAny_take (i := 2) (v := .pointer (some ⟨gf, 0, none⟩)) rfl (by kernel_rfl) (by kernel_rfl) (by kernel_rfl) (fun _ _ _ h => h) (Or.inl ⟨by kernel_rfl, fun w => by go_simp⟩) ?_
    try simp only [Act.put, List.setIfInBounds_toArray, List.set_cons_zero, List.set_cons_succ]
    refine wpAny_take (i := 3) (v := .pointer (some ⟨gf, 0, none⟩)) rfl (by kernel_rfl) (by kernel_rfl) (by kernel_rfl) (fun _ _ _ h => h) (Or.inl ⟨by kernel_rfl, fun w => by go_simp⟩) ?_
    try simp only [Act.put, List.setIfInBounds_toArray, List.set_cons_zero, List.set_cons_succ]
    refine wpAny_take (i := 4) (v := .pointer (some ⟨gf, 0, none⟩)) rfl (by kernel_rfl) (by kernel_rfl) (by kernel_rfl) (fun _ _ _ h => h) (Or.inl ⟨by kernel_rfl, fun w => by go_simp⟩) ?_
    try simp only [Act.put, List.setIfInBounds_toArray, List.set_cons_zero, List.set_cons_succ]
    refine wpAny_ready (rs := [1, 5]) (by kernel_rfl) (by simp) ?_
    refine AllReady.cons (o := ⟨some 14, .load 218 (.tmp 5), _, _, _, none⟩) rfl (fun K' hK' => ?_) (AllReady.cons (o := ⟨some 18, .load 34 (.tmp 17), _, _, _, none⟩) rfl (fun K' hK' => ?_) AllReady.nil)
    · have HK' := Lib.hid hK'
      clear hK'
      rw [if_pos (by kernel_rfl)]
      go_simp
      refine HK'.out _ _ ?_
      clear HK' K'
      try simp only [Act.put, List.setIfInBounds_toArray, List.set_cons_zero, List.set_cons_succ]
      refine wpAny_ready (rs := [5]) (by kernel_rfl) (by simp) ?_
      refine AllReady.cons (o := ⟨some 18, .load 34 (.tmp 17), _, _, _, none⟩) rfl (fun K' hK' => ?_) AllReady.nil
      have HK' := Lib.hid hK'
      clear hK'
      rw [if_pos (by kernel_rfl)]
      go_simp
      refine HK'.out _ _ ?_
      clear HK' K'
      try simp only [Act.put, List.setIfInBounds_toArray, List.set_cons_zero, List.set_cons_succ]
      refine wpAny_ready (rs := [6]) (by kernel_rfl) (by simp) ?_
      refine AllReady.cons (o := ⟨some 19, .call { callee := .value (.func 189), args := #[.tmp 14, .tmp 18], argTypes := #[218, 34] }, _, _, _, none⟩) rfl (fun K' hK' => ?_) AllReady.nil
      have HK' := Lib.hid hK'
      clear hK'
      go_simp
      go_wp2_with (go_at_call 189; refine DO.out.mono ?_; rintro e w3 ⟨v3, rfl, o3, gr3, lo3⟩)
      obtain ⟨A3, c3, rfl⟩ := own_formV o3
      obtain ⟨d0, f0, MM⟩ := MID.out _ w3 o3 gr3 lo3
      clear o3 gr3 lo3
      refine HK'.out _ _ ?_
      clear HK' K'
      try simp only [Act.put, List.setIfInBounds_toArray, List.set_cons_zero, List.set_cons_succ]
      refine wpAny_take (i := 7) (v := .pointer (some ⟨gf, 0, none⟩)) rfl (by kernel_rfl) (by kernel_rfl) (by kernel_rfl) (fun _ _ _ h => h) (Or.inl ⟨by kernel_rfl, fun w => by go_simp⟩) ?_
      try simp only [Act.put, List.setIfInBounds_toArray, List.set_cons_zero, List.set_cons_succ]
      refine wpAny_take (i := 8) (v := .pointer (some ⟨gf, 0, none⟩)) rfl (by kernel_rfl) (by kernel_rfl) (by kernel_rfl) (fun _ _ _ h => h) (Or.inl ⟨by kernel_rfl, fun w => by go_simp⟩) ?_
      try simp only [Act.put, List.setIfInBounds_toArray, List.set_cons_zero, List.set_cons_succ]
      refine wpAny_ready (rs := [9]) (by kernel_rfl) (by simp) ?_
      refine AllReady.cons (o := ⟨none, .store 34 (.tmp 21) (.tmp 19), _, _, _, none⟩) rfl (fun K' hK' => ?_) AllReady.nil
      have HK' := Lib.hid hK'
      clear hK'
      rw [if_pos (by kernel_rfl)]
      go_simp
      refine HK'.out _ _ ?_
      clear HK' K'
      try simp only [Act.put, List.setIfInBounds_toArray, List.set_cons_zero, List.set_cons_succ]
      refine wpAny_done (by kernel_rfl) ?_ _
      go_simp
      go_wp2_with fail
      go_meet
      exact ⟨rfl, _, MM⟩
    · have HK' := Lib.hid hK'
      clear hK'
      rw [if_pos (by kernel_rfl)]
      go_simp
      refine HK'.out _ _ ?_
      clear HK' K'
      try simp only [Act.put, List.setIfInBounds_toArray, List.set_cons_zero, List.set_cons_succ]
      refine wpAny_ready (rs := [1]) (by kernel_rfl) (by simp) ?_
      refine AllReady.cons (o := ⟨some 14, .load 218 (.tmp 5), _, _, _, none⟩) rfl (fun K' hK' => ?_) AllReady.nil
      have HK' := Lib.hid hK'
      clear hK'
      rw [if_pos (by kernel_rfl)]
      go_simp
      refine HK'.out _ _ ?_
      clear HK' K'
      try simp only [Act.put, List.setIfInBounds_toArray, List.set_cons_zero, List.set_cons_succ]
      refine wpAny_ready (rs := [6]) (by kernel_rfl) (by simp) ?_
      refine AllReady.cons (o := ⟨some 19, .call { callee := .value (.func 189), args := #[.tmp 14, .tmp 18], argTypes := #[218, 34] }, _, _, _, none⟩) rfl (fun K' hK' => ?_) AllReady.nil
      have HK' := Lib.hid hK'
      clear hK'
      go_simp
      go_wp2_with (go_at_call 189; refine DO.out.mono ?_; rintro e w3 ⟨v3, rfl, o3, gr3, lo3⟩)
      obtain ⟨A3, c3, rfl⟩ := own_formV o3
      obtain ⟨d0, f0, MM⟩ := MID.out _ w3 o3 gr3 lo3
      clear o3 gr3 lo3
      refine HK'.out _ _ ?_
      clear HK' K'
      try simp only [Act.put, List.setIfInBounds_toArray, List.set_cons_zero, List.set_cons_succ]
      refine wpAny_take (i := 7) (v := .pointer (some ⟨gf, 0, none⟩)) rfl (by kernel_rfl) (by kernel_rfl) (by kernel_rfl) (fun _ _ _ h => h) (Or.inl ⟨by kernel_rfl, fun w => by go_simp⟩) ?_
      try simp only [Act.put, List.setIfInBounds_toArray, List.set_cons_zero, List.set_cons_succ]
      refine wpAny_take (i := 8) (v := .pointer (some ⟨gf, 0, none⟩)) rfl (by kernel_rfl) (by kernel_rfl) (by kernel_rfl) (fun _ _ _ h => h) (Or.inl ⟨by kernel_rfl, fun w => by go_simp⟩) ?_
      try simp only [Act.put, List.setIfInBounds_toArray, List.set_cons_zero, List.set_cons_succ]
      refine wpAny_ready (rs := [9]) (by kernel_rfl) (by simp) ?_
      refine AllReady.cons (o := ⟨none, .store 34 (.tmp 21) (.tmp 19), _, _, _, none⟩) rfl (fun K' hK' => ?_) AllReady.nil
      have HK' := Lib.hid hK'
      clear hK'
      rw [if_pos (by kernel_rfl)]
      go_simp
      refine HK'.out _ _ ?_
      clear HK' K'
      try simp only [Act.put, List.setIfInBounds_toArray, List.set_cons_zero, List.set_cons_succ]
      refine wpAny_done (by kernel_rfl) ?_ _
      go_simp
      go_wp2_with fail
      go_meet
      exact ⟨rfl, _, MM⟩
  case rest =>
    obtain ⟨rfl, nv', hh⟩ := hcut
    have HH := Lib.hid hh
    clear hh DO MID k0 k1 c0
    have DE := Lib.hid (show Still wc wc.drew from (Still.refl _).drew)
    obtain ⟨wf, hwf⟩ : ∃ wf, wf = wc.drew := ⟨_, rfl⟩
    rw [← hwf] at DE
    have Cf := Lib.hid (Chg.of_still DE.out (fun _ => False))
    have Bf := Lib.hid (Cf.out.blk HH.out.2.2.2.2.1 (fun h => h))
    have Ff := Lib.hid (show FileB wf gf nv' fv wtv from Cf.out.blk HH.out.2.1 (fun h => h))
    obtain ⟨w5, hw5⟩ : ∃ w5, w5 = wf.alloc (.cells #[.int .i64 en, .slice A m c] 218) := ⟨_, rfl⟩
    obtain ⟨g5, hg5⟩ : ∃ g5, g5 = wf.heap.size := ⟨_, rfl⟩
    have S5 := Lib.hid (show Still wc w5 by rw [hw5]; exact DE.out.trans ((Still.refl _).alloc (Nat.le_refl _) _))
    have C5 := Lib.hid (Chg.of_still S5.out (fun _ => False))
    have B5 := Lib.hid (show Blk w5 g5 218 #[.int .i64 en, .slice A m c] by rw [hw5, hg5]; exact Blk.new _ _ _)
    have F5 := Lib.hid (show FileB w5 gf nv' fv wtv from C5.out.blk HH.out.2.1 (fun h => h))
    have T5 := Lib.hid (C5.out.own HH.out.2.2.2.1 (fun _ _ h => h))
    have HW5 := Lib.hid hw5
    have HG5 := Lib.hid hg5
    have GC5 := Lib.hid (show ∀ q u, ([.int .i64 en, .slice A m c] : List Value)[q]? = some u → w5.cell? ⟨g5, q, none⟩ = some u from fun q u hq => (Blk.cell B5.out q).trans (by simpa using hq))
    have ONE := Lib.hid (show ∀ u ∈ ([.int .i64 en, .slice A m c] : List Value), u.oneCell' = true by
      intro u hu
      simp only [List.mem_cons, List.not_mem_nil, or_false] at hu
      rcases hu with rfl | rfl <;> rfl)
    have HK6 := Lib.hid (show k ≤ 1048576 by have := HP.out.2.2.2; omega)
    have SZ5 := Lib.hid (show w.heap.size ≤ w5.heap.size from Nat.le_trans HH.out.2.2.2.2.2.1.size C5.out.size)
    have HBS5 := Lib.hid (Nat.le_trans HBS.out.1 SZ5.out)
    have FINAL := Lib.hid (show ∀ v6 w6, w6.ownsRow base 218 2 v6 (k + 1) (cs ++ [.int .i64 en, .slice A m c]) → w5.grownBy w6 wtv.ownBlock → (v6.ownBlock = wtv.ownBlock ∨ v6.ownBlock = some w5.heap.size) → w6.cell? ⟨gf, 2, none⟩ = some wtv ∧ w6.frozen? ⟨gf, 2, none⟩ = false ∧ (∃ nv' wtv', MedB (w6.setCell ⟨gf, 2, none⟩ v6) g room bn bf wv L2 O2 ∧ FileB (w6.setCell ⟨gf, 2, none⟩ v6) gf nv' fv wtv' ∧ (w6.setCell ⟨gf, 2, none⟩ v6).ownsRow base 5 1 nv' (en + m) (bytesV (l.take en ++ x)) ∧ (w6.setCell ⟨gf, 2, none⟩ v6).ownsRow base 218 2 wtv' (k + 1) (cs ++ [.int .i64 en, .slice A m c]) ∧ Chg w (w6.setCell ⟨gf, 2, none⟩ v6) (wrS g gf nv wtv) ∧ (nv'.ownBlock = nv.ownBlock ∨ ∃ j, nv'.ownBlock = some j ∧ w.heap.size ≤ j) ∧ (wtv'.ownBlock = wtv.ownBlock ∨ ∃ j, wtv'.ownBlock = some j ∧ w.heap.size ≤ j)) by
      intro v6 w6 r6 gr6 loc6
      have C6 := Chg.of_grown (S := fun x => wtv.ownBlock = some x) gr6 (fun k e _ => e)
      have F6 : FileB w6 gf nv' fv wtv := C6.blk F5.out (fun e => NE.out.2.2.2.2.1 e)
      have M6 : MedB w6 g room bn bf wv L2 O2 := C6.blk (C5.out.blk HH.out.1 (fun h => h)) (fun e => NE.out.2.2.2.1 e)
      have o5 := C5.out.own HH.out.2.2.1 (fun _ _ h => h)
      have o6 := C6.own o5 (fun k e q => own_own_ne o5 T5.out (by decide) k e q)
      have C7 := Chg.of_grown (S := fun x => x = gf) (grownBy_set w6 gf 2 v6) (fun k e _ => by injection e with e; exact e.symm)
      have NV6 : v6.ownBlock ≠ some gf := own_ne r6 F6 (by decide)
      have NN6 : nv'.ownBlock ≠ some gf := own_ne o6 F6 (by decide)
      refine ⟨Blk.cell F6 2, Blk.frozen F6 2, nv', v6, C7.blk M6 (fun e => NE.out.1 e), Blk.setc F6 2 v6, C7.own o6 (fun k e q => NN6 (q ▸ e)), C7.own r6 (fun k e q => NV6 (q ▸ e)), ?_, HH.out.2.2.2.2.2.2, ?_⟩
      · have a1 := Chg.trans HH.out.2.2.2.2.2.1 C5.out (fun x _ h => h.elim)
        have a2 := Chg.trans a1 C6 (fun x _ h => .inr (.inr (.inr h)))
        exact Chg.trans a2 C7 (fun x _ h => .inr (.inl h))
      · rcases loc6 with h | h
        · exact .inl h
        · exact .inr ⟨_, h, SZ5.out⟩)
    have k0 : wf.cell? ⟨gc, 0, none⟩ = some (.int .i64 en) := Blk.cell Bf.out 0
    have k1 : wf.cell? ⟨gc, 1, none⟩ = some (.slice A m c) := Blk.cell Bf.out 1
    have c3 : wf.cell? ⟨gf, 2, none⟩ = some wtv := Blk.cell Ff.out 2
    have c4 : w5.cell? ⟨gf, 2, none⟩ = some wtv := Blk.cell F5.out 2
    have HWF := Lib.hid hwf
    clear hwf hw5 hg5
    go_upto_region 5 with fail
    go_cut [6] (fun ev wx => ev = .int .i64 0 ∧ ∃ nv' wtv', MedB wx g room bn bf wv L2 O2 ∧ FileB wx gf nv' fv wtv' ∧ wx.ownsRow base 5 1 nv' (en + m) (bytesV (l.take en ++ x)) ∧ wx.ownsRow base 218 2 wtv' (k + 1) (cs ++ [.int .i64 en, .slice A m c]) ∧ Chg w wx (wrS g gf nv wtv) ∧ (nv'.ownBlock = nv.ownBlock ∨ ∃ j, nv'.ownBlock = some j ∧ w.heap.size ≤ j) ∧ (wtv'.ownBlock = wtv.ownBlock ∨ ∃ j, wtv'.ownBlock = some j ∧ w.heap.size ≤ j))
    case first =>
      refine wp_region_any (by kernel_rfl) ?_
      change wpAny _ _ _ _ _ _ _ wc.drew
      rw [← HWF.out]
      try simp only [Act.put, List.setIfInBounds_toArray, List.set_cons_zero, List.set_cons_succ]
      refine wpAny_take (i := 0) (v := .pointer (some ⟨gf, 0, none⟩)) rfl (by kernel_rfl) (by kernel_rfl) (by kernel_rfl) (fun _ _ _ h => h) (Or.inl ⟨by kernel_rfl, fun w => by go_simp⟩) ?_
      try simp only [Act.put, List.setIfInBounds_toArray, List.set_cons_zero, List.set_cons_succ]
      refine wpAny_take (i := 1) (v := .pointer (some ⟨gf, 0, none⟩)) rfl (by kernel_rfl) (by kernel_rfl) (by kernel_rfl) (fun _ _ _ h => h) (Or.inl ⟨by kernel_rfl, fun w => by go_simp⟩) ?_
      try simp only [Act.put, List.setIfInBounds_toArray, List.set_cons_zero, List.set_cons_succ]
      refine wpAny_take (i := 2) (v := .pointer (some ⟨gf, 0, none⟩)) rfl (by kernel_rfl) (by kernel_rfl) (by kernel_rfl) (fun _ _ _ h => h) (Or.inl ⟨by kernel_rfl, fun w => by go_simp⟩) ?_
      try simp only [Act.put, List.setIfInBounds_toArray, List.set_cons_zero, List.set_cons_succ]
      refine wpAny_take (i := 3) (v := .pointer (some ⟨gf, 2, none⟩)) rfl (by kernel_rfl) (by kernel_rfl) (by kernel_rfl) (fun _ _ _ h => h) (Or.inl ⟨by kernel_rfl, fun w => by go_simp⟩) ?_
      try simp only [Act.put, List.setIfInBounds_toArray, List.set_cons_zero, List.set_cons_succ]
      refine wpAny_ready (rs := [4, 5]) (by kernel_rfl) (by simp) ?_
      refine AllReady.cons (o := ⟨some 26, .load 199 (.tmp 25), _, _, _, none⟩) rfl (fun K' hK' => ?_) (AllReady.cons (o := ⟨some 27, .load 218 (.tmp 5), _, _, _, none⟩) rfl (fun K' hK' => ?_) AllReady.nil)
      · have HK' := Lib.hid hK'
        clear hK'
        rw [if_pos (by kernel_rfl)]
        go_simp
        refine HK'.out _ _ ?_
        clear HK' K'
        try simp only [Act.put, List.setIfInBounds_toArray, List.set_cons_zero, List.set_cons_succ]
        refine wpAny_ready (rs := [5]) (by kernel_rfl) (by simp) ?_
        refine AllReady.cons (o := ⟨some 27, .load 218 (.tmp 5), _, _, _, none⟩) rfl (fun K' hK' => ?_) AllReady.nil
        have HK' := Lib.hid hK'
        clear hK'
        rw [if_pos (by kernel_rfl)]
        go_simp
        refine HK'.out _ _ ?_
        clear HK' K'
        try simp only [Act.put, List.setIfInBounds_toArray, List.set_cons_zero, List.set_cons_succ]
        refine wpAny_ready (rs := [6]) (by kernel_rfl) (by simp) ?_
        refine AllReady.cons (o := ⟨some 28, .buildSlice 199 1 #[(0, .tmp 27)], _, _, _, none⟩) rfl (fun K' hK' => ?_) AllReady.nil
        have HK' := Lib.hid hK'
        clear hK'
        rw [if_pos (by kernel_rfl)]
        with_reducible refine step_boxCh wf (.tmp 27) (by kernel_rfl) en A m c (by kernel_rfl) ?_
        rw [← HW5.out, ← HG5.out]
        refine HK'.out _ _ ?_
        clear HK' K'
        try simp only [Act.put, List.setIfInBounds_toArray, List.set_cons_zero, List.set_cons_succ]
        refine wpAny_ready (rs := [7]) (by kernel_rfl) (by simp) ?_
        refine AllReady.cons (o := ⟨some 29, .call { callee := .builtin .append, args := #[.tmp 26, .tmp 28], argTypes := #[199, 199] }, _, _, _, none⟩) rfl (fun K' hK' => ?_) AllReady.nil
        have HK' := Lib.hid hK'
        clear hK'
        rw [if_pos (by kernel_rfl)]
        with_reducible refine step_pushCh w5 (.tmp 26) (.tmp 28) (by kernel_rfl) base wtv k cs (by kernel_rfl) T5.out g5 [.int .i64 en, .slice A m c] (by kernel_rfl) GC5.out rfl ONE.out HK6.out HBS5.out ?_
        intro v6 w6 r6 gr6 loc6
        refine HK'.out _ _ ?_
        clear HK' K'
        obtain ⟨d3, f3, FIN⟩ := FINAL.out v6 w6 r6 gr6 loc6
        obtain ⟨A6, c6, rfl⟩ := own_formV r6
        clear r6 gr6 loc6
        try simp only [Act.put, List.setIfInBounds_toArray, List.set_cons_zero, List.set_cons_succ]
        refine wpAny_take (i := 8) (v := .pointer (some ⟨gf, 0, none⟩)) rfl (by kernel_rfl) (by kernel_rfl) (by kernel_rfl) (fun _ _ _ h => h) (Or.inl ⟨by kernel_rfl, fun w => by go_simp⟩) ?_
        try simp only [Act.put, List.setIfInBounds_toArray, List.set_cons_zero, List.set_cons_succ]
        refine wpAny_take (i := 9) (v := .pointer (some ⟨gf, 2, none⟩)) rfl (by kernel_rfl) (by kernel_rfl) (by kernel_rfl) (fun _ _ _ h => h) (Or.inl ⟨by kernel_rfl, fun w => by go_simp⟩) ?_
        try simp only [Act.put, List.setIfInBounds_toArray, List.set_cons_zero, List.set_cons_succ]
        refine wpAny_ready (rs := [10]) (by kernel_rfl) (by simp) ?_
        refine AllReady.cons (o := ⟨none, .store 199 (.tmp 31) (.tmp 29), _, _, _, none⟩) rfl (fun K' hK' => ?_) AllReady.nil
        have HK' := Lib.hid hK'
        clear hK'
        rw [if_pos (by kernel_rfl)]
        go_simp
        refine HK'.out _ _ ?_
        clear HK' K'
        try simp only [Act.put, List.setIfInBounds_toArray, List.set_cons_zero, List.set_cons_succ]
        refine wpAny_done (by kernel_rfl) ?_ _
        go_simp
        go_wp2_with fail
        go_meet
        exact ⟨rfl, FIN⟩
      · have HK' := Lib.hid hK'
        clear hK'
        rw [if_pos (by kernel_rfl)]
        go_simp
        refine HK'.out _ _ ?_
        clear HK' K'
        try simp only [Act.put, List.setIfInBounds_toArray, List.set_cons_zero, List.set_cons_succ]
        refine wpAny_ready (rs := [4, 6]) (by kernel_rfl) (by simp) ?_
        refine AllReady.cons (o := ⟨some 26, .load 199 (.tmp 25), _, _, _, none⟩) rfl (fun K' hK' => ?_) (AllReady.cons (o := ⟨some 28, .buildSlice 199 1 #[(0, .tmp 27)], _, _, _, none⟩) rfl (fun K' hK' => ?_) AllReady.nil)
        · have HK' := Lib.hid hK'
          clear hK'
          rw [if_pos (by kernel_rfl)]
          go_simp
          refine HK'.out _ _ ?_
          clear HK' K'
          try simp only [Act.put, List.setIfInBounds_toArray, List.set_cons_zero, List.set_cons_succ]
          refine wpAny_ready (rs := [6]) (by kernel_rfl) (by simp) ?_
          refine AllReady.cons (o := ⟨some 28, .buildSlice 199 1 #[(0, .tmp 27)], _, _, _, none⟩) rfl (fun K' hK' => ?_) AllReady.nil
          have HK' := Lib.hid hK'
          clear hK'
          rw [if_pos (by kernel_rfl)]
          with_reducible refine step_boxCh wf (.tmp 27) (by kernel_rfl) en A m c (by kernel_rfl) ?_
          rw [← HW5.out, ← HG5.out]
          refine HK'.out _ _ ?_
          clear HK' K'
          try simp only [Act.put, List.setIfInBounds_toArray, List.set_cons_zero, List.set_cons_succ]
          refine wpAny_ready (rs := [7]) (by kernel_rfl) (by simp) ?_
          refine AllReady.cons (o := ⟨some 29, .call { callee := .builtin .append, args := #[.tmp 26, .tmp 28], argTypes := #[199, 199] }, _, _, _, none⟩) rfl (fun K' hK' => ?_) AllReady.nil
          have HK' := Lib.hid hK'
          clear hK'
          rw [if_pos (by kernel_rfl)]
          with_reducible refine step_pushCh w5 (.tmp 26) (.tmp 28) (by kernel_rfl) base wtv k cs (by kernel_rfl) T5.out g5 [.int .i64 en, .slice A m c] (by kernel_rfl) GC5.out rfl ONE.out HK6.out HBS5.out ?_
          intro v6 w6 r6 gr6 loc6
          refine HK'.out _ _ ?_
          clear HK' K'
          obtain ⟨d3, f3, FIN⟩ := FINAL.out v6 w6 r6 gr6 loc6
          obtain ⟨A6, c6, rfl⟩ := own_formV r6
          clear r6 gr6 loc6
          try simp only [Act.put, List.setIfInBounds_toArray, List.set_cons_zero, List.set_cons_succ]
          refine wpAny_take (i := 8) (v := .pointer (some ⟨gf, 0, none⟩)) rfl (by kernel_rfl) (by kernel_rfl) (by kernel_rfl) (fun _ _ _ h => h) (Or.inl ⟨by kernel_rfl, fun w => by go_simp⟩) ?_
          try simp only [Act.put, List.setIfInBounds_toArray, List.set_cons_zero, List.set_cons_succ]
          refine wpAny_take (i := 9) (v := .pointer (some ⟨gf, 2, none⟩)) rfl (by kernel_rfl) (by kernel_rfl) (by kernel_rfl) (fun _ _ _ h => h) (Or.inl ⟨by kernel_rfl, fun w => by go_simp⟩) ?_
          try simp only [Act.put, List.setIfInBounds_toArray, List.set_cons_zero, List.set_cons_succ]
          refine wpAny_ready (rs := [10]) (by kernel_rfl) (by simp) ?_
          refine AllReady.cons (o := ⟨none, .store 199 (.tmp 31) (.tmp 29), _, _, _, none⟩) rfl (fun K' hK' => ?_) AllReady.nil
          have HK' := Lib.hid hK'
          clear hK'
          rw [if_pos (by kernel_rfl)]
          go_simp
          refine HK'.out _ _ ?_
          clear HK' K'
          try simp only [Act.put, List.setIfInBounds_toArray, List.set_cons_zero, List.set_cons_succ]
          refine wpAny_done (by kernel_rfl) ?_ _
          go_simp
          go_wp2_with fail
          go_meet
          exact ⟨rfl, FIN⟩
        · have HK' := Lib.hid hK'
          clear hK'
          rw [if_pos (by kernel_rfl)]
          with_reducible refine step_boxCh wf (.tmp 27) (by kernel_rfl) en A m c (by kernel_rfl) ?_
          rw [← HW5.out, ← HG5.out]
          refine HK'.out _ _ ?_
          clear HK' K'
          try simp only [Act.put, List.setIfInBounds_toArray, List.set_cons_zero, List.set_cons_succ]
          refine wpAny_ready (rs := [4]) (by kernel_rfl) (by simp) ?_
          refine AllReady.cons (o := ⟨some 26, .load 199 (.tmp 25), _, _, _, none⟩) rfl (fun K' hK' => ?_) AllReady.nil
          have HK' := Lib.hid hK'
          clear hK'
          rw [if_pos (by kernel_rfl)]
          go_simp
          refine HK'.out _ _ ?_
          clear HK' K'
          try simp only [Act.put, List.setIfInBounds_toArray, List.set_cons_zero, List.set_cons_succ]
          refine wpAny_ready (rs := [7]) (by kernel_rfl) (by simp) ?_
          refine AllReady.cons (o := ⟨some 29, .call { callee := .builtin .append, args := #[.tmp 26, .tmp 28], argTypes := #[199, 199] }, _, _, _, none⟩) rfl (fun K' hK' => ?_) AllReady.nil
          have HK' := Lib.hid hK'
          clear hK'
          rw [if_pos (by kernel_rfl)]
          with_reducible refine step_pushCh w5 (.tmp 26) (.tmp 28) (by kernel_rfl) base wtv k cs (by kernel_rfl) T5.out g5 [.int .i64 en, .slice A m c] (by kernel_rfl) GC5.out rfl ONE.out HK6.out HBS5.out ?_
          intro v6 w6 r6 gr6 loc6
          refine HK'.out _ _ ?_
          clear HK' K'
          obtain ⟨d3, f3, FIN⟩ := FINAL.out v6 w6 r6 gr6 loc6
          obtain ⟨A6, c6, rfl⟩ := own_formV r6
          clear r6 gr6 loc6
          try simp only [Act.put, List.setIfInBounds_toArray, List.set_cons_zero, List.set_cons_succ]
          refine wpAny_take (i := 8) (v := .pointer (some ⟨gf, 0, none⟩)) rfl (by kernel_rfl) (by kernel_rfl) (by kernel_rfl) (fun _ _ _ h => h) (Or.inl ⟨by kernel_rfl, fun w => by go_simp⟩) ?_
          try simp only [Act.put, List.setIfInBounds_toArray, List.set_cons_zero, List.set_cons_succ]
          refine wpAny_take (i := 9) (v := .pointer (some ⟨gf, 2, none⟩)) rfl (by kernel_rfl) (by kernel_rfl) (by kernel_rfl) (fun _ _ _ h => h) (Or.inl ⟨by kernel_rfl, fun w => by go_simp⟩) ?_
          try simp only [Act.put, List.setIfInBounds_toArray, List.set_cons_zero, List.set_cons_succ]
          refine wpAny_ready (rs := [10]) (by kernel_rfl) (by simp) ?_
          refine AllReady.cons (o := ⟨none, .store 199 (.tmp 31) (.tmp 29), _, _, _, none⟩) rfl (fun K' hK' => ?_) AllReady.nil
          have HK' := Lib.hid hK'
          clear hK'
          rw [if_pos (by kernel_rfl)]
          go_simp
          refine HK'.out _ _ ?_
          clear HK' K'
          try simp only [Act.put, List.setIfInBounds_toArray, List.set_cons_zero, List.set_cons_succ]
          refine wpAny_done (by kernel_rfl) ?_ _
          go_simp
          go_wp2_with fail
          go_meet
          exact ⟨rfl, FIN⟩
    case rest =>
      obtain ⟨rfl, hh⟩ := hcut
      have H9 := Lib.hid hh
      clear hh
      go_wp2_with fail
      go_ret
      exact ⟨rfl, H9.out⟩
end Go.Proofs.YtblgphfdicffcaaGreatDoor

/- Contracts: Append by whatever its write answers; Append without room. It proves no statement. -/

namespace Go.Proofs.YtblgphfdicffcaaGreatDoor
open Go.RowKit Go.Maps Go.WideMaps
set_option linter.unusedVariables false
set_option linter.unusedSimpArgs false

set_option maxRecDepth 100000 in
set_option maxHeartbeats 3200000 in
theorem append_by {w : World} {g : Nat} {room : Int} {bn bf : Nat} {wv : Value} {left : Int} (h : MedB w g room bn bf wv left false) (s : ByteArray) (hs : s.size ≤ maxLen) (n : Nat) (D : DataW Unit) (hown : NM w bn n D) (sz : Int → Nat) (hsz : Sized w D sz)
    (gf nf base : Nat) (nv fv wtv : Value) (l x : List UInt8) (A : Option Addr) (m c B : Nat) (hlk : look D s = (gf : Int)) (hf : FileB w gf nv fv wtv) (hnv : w.ownsRow base 5 1 nv nf (bytesV l))
    (hr : Reads w B A m x) (hB : B ≤ w.heap.size) (hA : A = none → m = 0 ∧ c = 0) (hm : m ≤ 70368744177664) (hu : usedOf sz D ≤ 35184372088832) (h0 : 0 ≤ room) (hrm : room ≤ 16777216) (hroom : (m : Int) + usedOf sz D ≤ room) (E : Int) (R : World → Prop)
    (hW : ∀ W, Still w W → ∀ Ac cc, W.ownsRow w.heap.size 5 1 (.slice Ac m cc) m (bytesV x) → Calls Tryz.prog 252 #[.pointer (some ⟨g, 0, none⟩), .pointer (some ⟨gf, 0, none⟩), .agg #[.int .i64 nf, .slice Ac m cc]] W fun e w' => e = .returned (.int .i64 E) ∧ R w') :
    Calls Tryz.prog 206 #[.pointer (some ⟨g, 0, none⟩), .string s, .slice A m c] w fun e w' => e = .returned (.int .i64 E) ∧ R w' := by
  obtain ⟨Anv, cnv, rfl, p1, p2, p3⟩ := own_form hnv
  have FD := Lib.hid (find_yes h s n D hown hs)
  rw [hlk, show findV false (gf : Int) = pv (gf : Int) from rfl, pv_at, show findE false (gf : Int) = if (gf : Int) < 0 then 9 else 0 from rfl, if_neg (by omega)] at FD
  have US := Lib.hid (used_yes (w := w.drew) (h.still ((Still.refl w).drew)) n D (World.ownsMap.drew hown) sz (hsz.chg (Chg.drew w (fun _ => False)) (fun _ _ _ _ h => h)) hu)
  have MM := Lib.hid (fun W (st : Still w W) => h.still st)
  have FF := Lib.hid (fun W (st : Still w W) => (show FileB W gf (.slice Anv nf cnv) fv wtv from Blk.still hf st))
  have CL := Lib.hid (fun W (st : Still w W) => bclone_any A m c x W B (hr.still hB st) (Nat.le_trans hB st.size) (by omega) hA)
  have c0 : w.drew.cell? ⟨g, 0, none⟩ = some (.int .i64 room) := Blk.cell h 0
  obtain ⟨U, hU⟩ : ∃ U, U = usedOf sz D := ⟨_, rfl⟩
  rw [← hU] at US hroom hu
  have d1 : ¬ (room - (U : Int) < (m : Int)) := by omega
  have d2 : (U : Int) ≤ 35184372088832 := by omega
  have d3 : (0 : Int) ≤ room := by omega
  have d4 : IntKind.i64.wrap (room - (U : Int)) = room - (U : Int) := by rw [IntKind.wrap_i64]; omega
  have WR := Lib.hid hW
  clear h hs hown hsz hf hnv hr hB hA p1 p2 p3 hlk hU hroom hW h0 hm
  go_enter Tryz.func206, Tryz.ntmps206
  go_wp2_with fail
  refine FD.out.mono ?_
  rintro e w2 ⟨rfl, rfl⟩
  go_wp2_with fail
  refine wp_region_held_drew (S := fun W => W.cell? ⟨g, 0, none⟩ = some (.int .i64 room)) (by kernel_rfl) c0 (fun hHeld => ?_)
  try simp only [Act.put, List.setIfInBounds_toArray, List.set_cons_zero, List.set_cons_succ]
  refine wpAnyH_take (i := 0) (v := .slice A m c) rfl (by kernel_rfl) (by kernel_rfl) (by kernel_rfl) (fun _ _ _ h => h) (Or.inl ⟨by kernel_rfl, fun W hS => by go_simp⟩) (by assumption) ?_
  try simp only [Act.put, List.setIfInBounds_toArray, List.set_cons_zero, List.set_cons_succ]
  refine wpAnyH_take (i := 1) (v := .int .i64 (m : Int)) rfl (by kernel_rfl) (by kernel_rfl) (by kernel_rfl) (fun _ _ _ h => h) (Or.inl ⟨by kernel_rfl, fun W hS => by go_simp⟩) (by assumption) ?_
  try simp only [Act.put, List.setIfInBounds_toArray, List.set_cons_zero, List.set_cons_succ]
  refine wpAnyH_take (i := 2) (v := .pointer (some ⟨g, 0, none⟩)) rfl (by kernel_rfl) (by kernel_rfl) (by kernel_rfl) (fun _ _ _ h => h) (Or.inl ⟨by kernel_rfl, fun W hS => by go_simp⟩) (by assumption) ?_
  try simp only [Act.put, List.setIfInBounds_toArray, List.set_cons_zero, List.set_cons_succ]
  refine wpAnyH_take (i := 3) (v := .pointer (some ⟨g, 0, none⟩)) rfl (by kernel_rfl) (by kernel_rfl) (by kernel_rfl) (fun _ _ _ h => h) (Or.inl ⟨by kernel_rfl, fun W hS => by go_simp⟩) (by assumption) ?_
  try simp only [Act.put, List.setIfInBounds_toArray, List.set_cons_zero, List.set_cons_succ]
  refine wpAnyH_take (i := 4) (v := .pointer (some ⟨g, 0, none⟩)) rfl (by kernel_rfl) (by kernel_rfl) (by kernel_rfl) (fun _ _ _ h => h) (Or.inl ⟨by kernel_rfl, fun W hS => by go_simp⟩) (by assumption) ?_
  try simp only [Act.put, List.setIfInBounds_toArray, List.set_cons_zero, List.set_cons_succ]
  refine wpAnyH_take (i := 5) (v := .int .i64 room) rfl (by kernel_rfl) (by kernel_rfl) (by kernel_rfl) (fun _ _ _ h => h) (Or.inl ⟨by kernel_rfl, fun W hS => by go_simp⟩) (by assumption) ?_
  try simp only [Act.put, List.setIfInBounds_toArray, List.set_cons_zero, List.set_cons_succ]
  refine wpAnyH_take (i := 6) (v := .pointer (some ⟨g, 0, none⟩)) rfl (by kernel_rfl) (by kernel_rfl) (by kernel_rfl) (fun _ _ _ h => h) (Or.inl ⟨by kernel_rfl, fun W hS => by go_simp⟩) (by assumption) ?_
  try simp only [Act.put, List.setIfInBounds_toArray, List.set_cons_zero, List.set_cons_succ]
  refine wpAnyH_ready (rs := [7]) (by kernel_rfl) (by simp) ?_
  refine AllReadyH.cons (o := ⟨some 27, .call { callee := .value (.func 251), args := #[.tmp 26], argTypes := #[67] }, _, _, _, _⟩) rfl (fun K' hK' => ?_) AllReadyH.nil
  have HK' := Lib.hid hK'
  clear hK'
  go_simp
  go_wp2_with (go_at_call 251; refine US.out.mono ?_; rintro e w3 ⟨rfl, s3⟩; have S3 := Lib.hid (show Still w w3 from ((Still.refl w).drew).trans s3))
  refine HK'.out.out _ _ (Blk.cell (MM.out w3 S3.out) 0) (fun hHeld => ?_)
  clear HK' K'
  try simp only [Act.put, List.setIfInBounds_toArray, List.set_cons_zero, List.set_cons_succ]
  refine wpAnyH_take (i := 8) (v := .int .i64 (room - (U : Int))) rfl (by kernel_rfl) (by kernel_rfl) (by kernel_rfl) (fun _ _ _ h => h) (Or.inl ⟨by kernel_rfl, fun W hS => by go_simp⟩) (by assumption) ?_
  try simp only [Act.put, List.setIfInBounds_toArray, List.set_cons_zero, List.set_cons_succ]
  refine wpAnyH_take (i := 9) (v := (.bool false)) rfl (by kernel_rfl) (by kernel_rfl) (by kernel_rfl) (fun _ _ _ h => h) (Or.inl ⟨by kernel_rfl, fun W hS => by go_simp⟩) (by assumption) ?_
  try simp only [Act.put, List.setIfInBounds_toArray, List.set_cons_zero, List.set_cons_succ]
  refine wpAnyH_take (i := 10) (v := (.bool false)) rfl (by kernel_rfl) (by kernel_rfl) (by kernel_rfl) (fun _ _ _ h => h) (Or.inl ⟨by kernel_rfl, fun W hS => by go_simp⟩) (by assumption) ?_
  try simp only [Act.put, List.setIfInBounds_toArray, List.set_cons_zero, List.set_cons_succ]
  refine wpAnyH_done (by kernel_rfl) ?_ _
  clear hHeld c0 US
  go_simp
  go_wp2_with fail
  refine wp_region_any (by kernel_rfl) ?_
  change wpAny _ _ _ _ _ _ _ w3.drew
  have SE := Lib.hid (show Still w w3.drew from S3.out.trans ((Still.refl w3).drew))
  obtain ⟨we, hwe⟩ : ∃ we, we = w3.drew := ⟨_, rfl⟩
  rw [← hwe] at SE ⊢
  have c0 : we.cell? ⟨gf, 0, none⟩ = some (.slice Anv nf cnv) := Blk.cell (FF.out we SE.out) 0
  have CLE := Lib.hid (CL.out we SE.out)
  clear hwe
  try simp only [Act.put, List.setIfInBounds_toArray, List.set_cons_zero, List.set_cons_succ]
  refine wpAny_take (i := 0) (v := .pointer (some ⟨g, 0, none⟩)) rfl (by kernel_rfl) (by kernel_rfl) (by kernel_rfl) (fun _ _ _ h => h) (Or.inl ⟨by kernel_rfl, fun w => by go_simp⟩) ?_
  try simp only [Act.put, List.setIfInBounds_toArray, List.set_cons_zero, List.set_cons_succ]
  refine wpAny_take (i := 1) (v := .pointer (some ⟨gf, 0, none⟩)) rfl (by kernel_rfl) (by kernel_rfl) (by kernel_rfl) (fun _ _ _ h => h) (Or.inl ⟨by kernel_rfl, fun w => by go_simp⟩) ?_
  try simp only [Act.put, List.setIfInBounds_toArray, List.set_cons_zero, List.set_cons_succ]
  refine wpAny_take (i := 2) (v := .pointer (some ⟨gf, 0, none⟩)) rfl (by kernel_rfl) (by kernel_rfl) (by kernel_rfl) (fun _ _ _ h => h) (Or.inl ⟨by kernel_rfl, fun w => by go_simp⟩) ?_
  try simp only [Act.put, List.setIfInBounds_toArray, List.set_cons_zero, List.set_cons_succ]
  refine wpAny_take (i := 3) (v := .pointer (some ⟨gf, 0, none⟩)) rfl (by kernel_rfl) (by kernel_rfl) (by kernel_rfl) (fun _ _ _ h => h) (Or.inl ⟨by kernel_rfl, fun w => by go_simp⟩) ?_
  try simp only [Act.put, List.setIfInBounds_toArray, List.set_cons_zero, List.set_cons_succ]
  refine wpAny_take (i := 4) (v := .pointer (some ⟨gf, 0, none⟩)) rfl (by kernel_rfl) (by kernel_rfl) (by kernel_rfl) (fun _ _ _ h => h) (Or.inl ⟨by kernel_rfl, fun w => by go_simp⟩) ?_
  try simp only [Act.put, List.setIfInBounds_toArray, List.set_cons_zero, List.set_cons_succ]
  refine wpAny_take (i := 7) (v := .slice A m c) rfl (by kernel_rfl) (by kernel_rfl) (by kernel_rfl) (fun _ _ _ h => h) (Or.inl ⟨by kernel_rfl, fun w => by go_simp⟩) ?_
  try simp only [Act.put, List.setIfInBounds_toArray, List.set_cons_zero, List.set_cons_succ]
  refine wpAny_ready (rs := [5, 8]) (by kernel_rfl) (by simp) ?_
  refine AllReady.cons (o := ⟨some 35, .load 34 (.tmp 34), _, _, _, none⟩) rfl (fun K' hK' => ?_) (AllReady.cons (o := ⟨some 38, .call { callee := .value (.func 118), args := #[.tmp 37], argTypes := #[34] }, _, _, _, none⟩) rfl (fun K' hK' => ?_) AllReady.nil)
  · have HK' := Lib.hid hK'
    clear hK'
    rw [if_pos (by kernel_rfl)]
    go_simp
    refine HK'.out _ _ ?_
    clear HK' K'
    try simp only [Act.put, List.setIfInBounds_toArray, List.set_cons_zero, List.set_cons_succ]
    refine wpAny_take (i := 6) (v := .int .i64 (nf : Int)) rfl (by kernel_rfl) (by kernel_rfl) (by kernel_rfl) (fun _ _ _ h => h) (Or.inl ⟨by kernel_rfl, fun w => by go_simp⟩) ?_
    try simp only [Act.put, List.setIfInBounds_toArray, List.set_cons_zero, List.set_cons_succ]
    refine wpAny_ready (rs := [8]) (by kernel_rfl) (by simp) ?_
    refine AllReady.cons (o := ⟨some 38, .call { callee := .value (.func 118), args := #[.tmp 37], argTypes := #[34] }, _, _, _, none⟩) rfl (fun K' hK' => ?_) AllReady.nil
    have HK' := Lib.hid hK'
    clear hK'
    go_simp
    go_wp2_with (go_at_call 118; refine CLE.out.mono ?_; rintro e w5 ⟨⟨v5, rfl, o5⟩, s5⟩)
    have S5 := Lib.hid (SE.out.trans s5)
    obtain ⟨Ac, cc, rfl⟩ := own_formV o5
    have WW2 := Lib.hid (WR.out w5 S5.out Ac cc (own_lower9 o5 SE.out.size))
    have c5 : w5.cell? ⟨gf, 0, none⟩ = some (.slice Anv nf cnv) := Blk.cell (FF.out w5 S5.out) 0
    clear o5 s5
    refine HK'.out _ _ ?_
    clear HK' K'
    try simp only [Act.put, List.setIfInBounds_toArray, List.set_cons_zero, List.set_cons_succ]
    refine wpAny_take (i := 9) (v := .agg #[.int .i64 (nf : Int), .slice Ac m cc]) rfl (by kernel_rfl) (by kernel_rfl) (by kernel_rfl) (fun _ _ _ h => h) (Or.inl ⟨by kernel_rfl, fun w => by go_simp⟩) ?_
    try simp only [Act.put, List.setIfInBounds_toArray, List.set_cons_zero, List.set_cons_succ]
    refine wpAny_ready (rs := [10]) (by kernel_rfl) (by simp) ?_
    refine AllReady.cons (o := ⟨some 40, .call { callee := .value (.func 252), args := #[.tmp 30, .tmp 31, .tmp 39], argTypes := #[67, 153, 218] }, _, _, _, none⟩) rfl (fun K' hK' => ?_) AllReady.nil
    have HK' := Lib.hid hK'
    clear hK'
    go_simp
    go_wp2_with (go_at_call 252; refine WW2.out.mono ?_; rintro e w6 ⟨rfl, FN⟩)
    have FN2 := Lib.hid FN
    clear FN
    refine HK'.out _ _ ?_
    clear HK' K'
    try simp only [Act.put, List.setIfInBounds_toArray, List.set_cons_zero, List.set_cons_succ]
    refine wpAny_take (i := 11) (v := .int .i64 E) rfl (by kernel_rfl) (by kernel_rfl) (by kernel_rfl) (fun _ _ _ h => h) (Or.inl ⟨by kernel_rfl, fun w => by go_simp⟩) ?_
    try simp only [Act.put, List.setIfInBounds_toArray, List.set_cons_zero, List.set_cons_succ]
    refine wpAny_done (by kernel_rfl) ?_ _
    go_simp
    go_wp2_with fail
    go_ret
    exact ⟨rfl, FN2.out⟩
  · have HK' := Lib.hid hK'
    clear hK'
    go_simp
    go_wp2_with (go_at_call 118; refine CLE.out.mono ?_; rintro e w5 ⟨⟨v5, rfl, o5⟩, s5⟩)
    have S5 := Lib.hid (SE.out.trans s5)
    obtain ⟨Ac, cc, rfl⟩ := own_formV o5
    have WW2 := Lib.hid (WR.out w5 S5.out Ac cc (own_lower9 o5 SE.out.size))
    have c5 : w5.cell? ⟨gf, 0, none⟩ = some (.slice Anv nf cnv) := Blk.cell (FF.out w5 S5.out) 0
    clear o5 s5
    refine HK'.out _ _ ?_
    clear HK' K'
    try simp only [Act.put, List.setIfInBounds_toArray, List.set_cons_zero, List.set_cons_succ]
    refine wpAny_ready (rs := [5]) (by kernel_rfl) (by simp) ?_
    refine AllReady.cons (o := ⟨some 35, .load 34 (.tmp 34), _, _, _, none⟩) rfl (fun K' hK' => ?_) AllReady.nil
    have HK' := Lib.hid hK'
    clear hK'
    rw [if_pos (by kernel_rfl)]
    go_simp
    refine HK'.out _ _ ?_
    clear HK' K'
    try simp only [Act.put, List.setIfInBounds_toArray, List.set_cons_zero, List.set_cons_succ]
    refine wpAny_take (i := 6) (v := .int .i64 (nf : Int)) rfl (by kernel_rfl) (by kernel_rfl) (by kernel_rfl) (fun _ _ _ h => h) (Or.inl ⟨by kernel_rfl, fun w => by go_simp⟩) ?_
    try simp only [Act.put, List.setIfInBounds_toArray, List.set_cons_zero, List.set_cons_succ]
    refine wpAny_take (i := 9) (v := .agg #[.int .i64 (nf : Int), .slice Ac m cc]) rfl (by kernel_rfl) (by kernel_rfl) (by kernel_rfl) (fun _ _ _ h => h) (Or.inl ⟨by kernel_rfl, fun w => by go_simp⟩) ?_
    try simp only [Act.put, List.setIfInBounds_toArray, List.set_cons_zero, List.set_cons_succ]
    refine wpAny_ready (rs := [10]) (by kernel_rfl) (by simp) ?_
    refine AllReady.cons (o := ⟨some 40, .call { callee := .value (.func 252), args := #[.tmp 30, .tmp 31, .tmp 39], argTypes := #[67, 153, 218] }, _, _, _, none⟩) rfl (fun K' hK' => ?_) AllReady.nil
    have HK' := Lib.hid hK'
    clear hK'
    go_simp
    go_wp2_with (go_at_call 252; refine WW2.out.mono ?_; rintro e w6 ⟨rfl, FN⟩)
    have FN2 := Lib.hid FN
    clear FN
    refine HK'.out _ _ ?_
    clear HK' K'
    try simp only [Act.put, List.setIfInBounds_toArray, List.set_cons_zero, List.set_cons_succ]
    refine wpAny_take (i := 11) (v := .int .i64 E) rfl (by kernel_rfl) (by kernel_rfl) (by kernel_rfl) (fun _ _ _ h => h) (Or.inl ⟨by kernel_rfl, fun w => by go_simp⟩) ?_
    try simp only [Act.put, List.setIfInBounds_toArray, List.set_cons_zero, List.set_cons_succ]
    refine wpAny_done (by kernel_rfl) ?_ _
    go_simp
    go_wp2_with fail
    go_ret
    exact ⟨rfl, FN2.out⟩
set_option maxRecDepth 100000 in
set_option maxHeartbeats 3200000 in
theorem append_full {w : World} {g : Nat} {room : Int} {bn bf : Nat} {wv : Value} {left : Int} (h : MedB w g room bn bf wv left false) (s : ByteArray) (hs : s.size ≤ maxLen) (n : Nat) (D : DataW Unit) (hown : NM w bn n D) (sz : Int → Nat) (hsz : Sized w D sz)
    (gf nf base : Nat) (nv fv wtv : Value) (l x : List UInt8) (A : Option Addr) (m c B : Nat) (hlk : look D s = (gf : Int)) (hf : FileB w gf nv fv wtv) (hnv : w.ownsRow base 5 1 nv nf (bytesV l))
    (hr : Reads w B A m x) (hB : B ≤ w.heap.size) (hA : A = none → m = 0 ∧ c = 0) (hm : m ≤ 70368744177664) (hu : usedOf sz D ≤ 35184372088832) (h0 : 0 ≤ room) (hrm : room ≤ 16777216) (hroom : room < (m : Int) + usedOf sz D) :
    Calls Tryz.prog 206 #[.pointer (some ⟨g, 0, none⟩), .string s, .slice A m c] w fun e w' => e = .returned (.int .i64 11) ∧ Still w w' := by
  obtain ⟨Anv, cnv, rfl, p1, p2, p3⟩ := own_form hnv
  have FD := Lib.hid (find_yes h s n D hown hs)
  rw [hlk, show findV false (gf : Int) = pv (gf : Int) from rfl, pv_at, show findE false (gf : Int) = if (gf : Int) < 0 then 9 else 0 from rfl, if_neg (by omega)] at FD
  have US := Lib.hid (used_yes (w := w.drew) (h.still ((Still.refl w).drew)) n D (World.ownsMap.drew hown) sz (hsz.chg (Chg.drew w (fun _ => False)) (fun _ _ _ _ h => h)) hu)
  have MM := Lib.hid (fun W (st : Still w W) => h.still st)
  have FF := Lib.hid (fun W (st : Still w W) => (show FileB W gf (.slice Anv nf cnv) fv wtv from Blk.still hf st))
  have CL := Lib.hid (fun W (st : Still w W) => bclone_any A m c x W B (hr.still hB st) (Nat.le_trans hB st.size) (by omega) hA)
  have c0 : w.drew.cell? ⟨g, 0, none⟩ = some (.int .i64 room) := Blk.cell h 0
  obtain ⟨U, hU⟩ : ∃ U, U = usedOf sz D := ⟨_, rfl⟩
  rw [← hU] at US hroom hu
  have d1 : room - (U : Int) < (m : Int) := by omega
  have d2 : (U : Int) ≤ 35184372088832 := by omega
  have d4 : IntKind.i64.wrap (room - (U : Int)) = room - (U : Int) := by rw [IntKind.wrap_i64]; omega
  clear h hs hown hsz hf hnv hr hB hA p1 p2 p3 hlk hU hroom hm CL
  go_enter Tryz.func206, Tryz.ntmps206
  go_wp2_with fail
  refine FD.out.mono ?_
  rintro e w2 ⟨rfl, rfl⟩
  go_wp2_with fail
  refine wp_region_held_drew (S := fun W => W.cell? ⟨g, 0, none⟩ = some (.int .i64 room)) (by kernel_rfl) c0 (fun hHeld => ?_)
  try simp only [Act.put, List.setIfInBounds_toArray, List.set_cons_zero, List.set_cons_succ]
  refine wpAnyH_take (i := 0) (v := .slice A m c) rfl (by kernel_rfl) (by kernel_rfl) (by kernel_rfl) (fun _ _ _ h => h) (Or.inl ⟨by kernel_rfl, fun W hS => by go_simp⟩) (by assumption) ?_
  try simp only [Act.put, List.setIfInBounds_toArray, List.set_cons_zero, List.set_cons_succ]
  refine wpAnyH_take (i := 1) (v := .int .i64 (m : Int)) rfl (by kernel_rfl) (by kernel_rfl) (by kernel_rfl) (fun _ _ _ h => h) (Or.inl ⟨by kernel_rfl, fun W hS => by go_simp⟩) (by assumption) ?_
  try simp only [Act.put, List.setIfInBounds_toArray, List.set_cons_zero, List.set_cons_succ]
  refine wpAnyH_take (i := 2) (v := .pointer (some ⟨g, 0, none⟩)) rfl (by kernel_rfl) (by kernel_rfl) (by kernel_rfl) (fun _ _ _ h => h) (Or.inl ⟨by kernel_rfl, fun W hS => by go_simp⟩) (by assumption) ?_
  try simp only [Act.put, List.setIfInBounds_toArray, List.set_cons_zero, List.set_cons_succ]
  refine wpAnyH_take (i := 3) (v := .pointer (some ⟨g, 0, none⟩)) rfl (by kernel_rfl) (by kernel_rfl) (by kernel_rfl) (fun _ _ _ h => h) (Or.inl ⟨by kernel_rfl, fun W hS => by go_simp⟩) (by assumption) ?_
  try simp only [Act.put, List.setIfInBounds_toArray, List.set_cons_zero, List.set_cons_succ]
  refine wpAnyH_take (i := 4) (v := .pointer (some ⟨g, 0, none⟩)) rfl (by kernel_rfl) (by kernel_rfl) (by kernel_rfl) (fun _ _ _ h => h) (Or.inl ⟨by kernel_rfl, fun W hS => by go_simp⟩) (by assumption) ?_
  try simp only [Act.put, List.setIfInBounds_toArray, List.set_cons_zero, List.set_cons_succ]
  refine wpAnyH_take (i := 5) (v := .int .i64 room) rfl (by kernel_rfl) (by kernel_rfl) (by kernel_rfl) (fun _ _ _ h => h) (Or.inl ⟨by kernel_rfl, fun W hS => by go_simp⟩) (by assumption) ?_
  try simp only [Act.put, List.setIfInBounds_toArray, List.set_cons_zero, List.set_cons_succ]
  refine wpAnyH_take (i := 6) (v := .pointer (some ⟨g, 0, none⟩)) rfl (by kernel_rfl) (by kernel_rfl) (by kernel_rfl) (fun _ _ _ h => h) (Or.inl ⟨by kernel_rfl, fun W hS => by go_simp⟩) (by assumption) ?_
  try simp only [Act.put, List.setIfInBounds_toArray, List.set_cons_zero, List.set_cons_succ]
  refine wpAnyH_ready (rs := [7]) (by kernel_rfl) (by simp) ?_
  refine AllReadyH.cons (o := ⟨some 27, .call { callee := .value (.func 251), args := #[.tmp 26], argTypes := #[67] }, _, _, _, _⟩) rfl (fun K' hK' => ?_) AllReadyH.nil
  have HK' := Lib.hid hK'
  clear hK'
  go_simp
  go_wp2_with (go_at_call 251; refine US.out.mono ?_; rintro e w3 ⟨rfl, s3⟩; have S3 := Lib.hid (show Still w w3 from ((Still.refl w).drew).trans s3))
  refine HK'.out.out _ _ (Blk.cell (MM.out w3 S3.out) 0) (fun hHeld => ?_)
  clear HK' K'
  try simp only [Act.put, List.setIfInBounds_toArray, List.set_cons_zero, List.set_cons_succ]
  refine wpAnyH_take (i := 8) (v := .int .i64 (room - (U : Int))) rfl (by kernel_rfl) (by kernel_rfl) (by kernel_rfl) (fun _ _ _ h => h) (Or.inl ⟨by kernel_rfl, fun W hS => by go_simp⟩) (by assumption) ?_
  try simp only [Act.put, List.setIfInBounds_toArray, List.set_cons_zero, List.set_cons_succ]
  refine wpAnyH_take (i := 9) (v := (.bool true)) rfl (by kernel_rfl) (by kernel_rfl) (by kernel_rfl) (fun _ _ _ h => h) (Or.inl ⟨by kernel_rfl, fun W hS => by go_simp⟩) (by assumption) ?_
  try simp only [Act.put, List.setIfInBounds_toArray, List.set_cons_zero, List.set_cons_succ]
  refine wpAnyH_take (i := 10) (v := (.bool true)) rfl (by kernel_rfl) (by kernel_rfl) (by kernel_rfl) (fun _ _ _ h => h) (Or.inl ⟨by kernel_rfl, fun W hS => by go_simp⟩) (by assumption) ?_
  try simp only [Act.put, List.setIfInBounds_toArray, List.set_cons_zero, List.set_cons_succ]
  refine wpAnyH_done (by kernel_rfl) ?_ _
  clear hHeld c0 US
  go_simp
  go_wp2_with fail
  go_ret
  exact ⟨rfl, S3.out⟩
end Go.Proofs.YtblgphfdicffcaaGreatDoor
