/- Contracts and facts, several texts in one. It proves no statement. -/
import Derived.Test.YtljacdbdjacbkaaGreatMpGc
import Derived.Test.YtljacdbdjacbkaaGreatMpGzb
import Derived.Test.YtljacdbdjacbkaaGreatMpGb
import Derived.StillTailTactics
import Derived.Deep.DeepCutAuto
import Derived.Deep.CutBlock
import Derived.Deep.QuietTactic
import Derived.BigQuiet
import Derived.Laws.CopyOwn

/- The law's own few calls: one of them. It proves no statement. -/











namespace Go.Proofs.YtljacdbdjacbkaaGreat
open Go.RowKit Go.Maps Go.WideMaps
set_option linter.unusedVariables false
set_option linter.unusedSimpArgs false

theorem wpList_loadDo {ops : Array Oper} {rest : List Oper} {o : Oper} {a : Act} {w : World} {Q : Exit → Act → World → Prop} (hgd : o.guard = none) (x : Operand) (ho : o.op = .load 36 x)
    (g : Nat) (hx : a.eval x = .pointer (some ⟨g, 0, none⟩)) (cs : Array Value) (h7 : cs.size = 7) (hg : Blk w g 36 cs)
    (h : wpList Tryz.prog ops Q rest (a.put o.dst (.agg cs)) w) : wpList Tryz.prog ops Q (o :: rest) a w := by
  obtain ⟨i0, hi, hz0, hz1, hz2⟩ := info_parts Tryz.infoDo
  exact wpList_plain hgd fun _ hQ => wp_load_row 36 x ho g hx _ _ _ _ hg Tryz.underlying36 rfl (by rw [hi]; simp [hz1, h7]) (hQ _ _ h)
theorem wpList_allocDo {ops : Array Oper} {rest : List Oper} {o : Oper} {a : Act} {w : World} {Q : Exit → Act → World → Prop} (hgd : o.guard = none) (ho : o.op = .alloc 36) (dst : Option Tmp) (hd : o.dst = dst)
    (h : wpList Tryz.prog ops Q rest (a.put dst (.pointer (some ⟨w.heap.size, 0, none⟩))) (w.alloc (.cells #[.int .i64 0, .string ⟨#[]⟩, .string ⟨#[]⟩, .int .i64 0, .int .i64 0, .slice none 0 0, .slice none 0 0] 36))) : wpList Tryz.prog ops Q (o :: rest) a w := by
  obtain ⟨i0, hi, hz0, hz1, hz2⟩ := info_parts Tryz.infoDo
  exact wpList_alloc_arr hgd 36 ho dst hd _ 7 (by rw [hi]; simp [hz0, hz1]) h
theorem wpList_storeDo {ops : Array Oper} {rest : List Oper} {o : Oper} {a : Act} {w : World} {Q : Exit → Act → World → Prop} (hgd : o.guard = none) (x y : Operand) (ho : o.op = .store 36 x y)
    (g : Nat) (hx : a.eval x = .pointer (some ⟨g, 0, none⟩)) (cs old : Array Value) (hy : a.eval y = .agg cs) (h7 : cs.size = 7) (ho7 : old.size = 7) (h1 : cs.all (·.oneCell') = true) (hg : Blk w g 36 old)
    (h : wpList Tryz.prog ops Q rest (a.put o.dst undef) (w.setRow g cs)) : wpList Tryz.prog ops Q (o :: rest) a w := by
  obtain ⟨i0, hi, hz0, hz1, hz2⟩ := info_parts Tryz.infoDo
  exact wpList_plain hgd fun _ hQ => wp_store_row 36 x y ho g cs hx hy _ old hg (by rw [hi]; simp [hz1, h7]) (by rw [h7, ho7]) h1 (hQ _ _ h)

theorem stored {w0 w : World} {g i base n : Nat} {cs : Array Value} {v u : Value} {xs : List Value} (hb : Blk w g 36 cs) (hs : Still w0 w) (hg : w0.heap.size ≤ g) (ho : w.ownsRow base 5 1 v n xs) (hgb : g < base) :
    Blk (w.setCell ⟨g, i, none⟩ u) g 36 (cs.setIfInBounds i u) ∧ Still w0 (w.setCell ⟨g, i, none⟩ u) ∧ (w.setCell ⟨g, i, none⟩ u).ownsRow base 5 1 v n xs :=
  ⟨hb.setc i u, hs.setCell hg u, ownsRow_setCell_below ho hgb u⟩
set_option maxRecDepth 100000 in
set_option maxHeartbeats 6400000 in
theorem few1_any (gl : Nat) (k nn mm : Int) (s t : ByteArray) (A : Option Addr) (n c : Nat) (A2 : Option Addr) (n2 c2 : Nat) (D : List UInt8) (w : World) (B : Nat) (hl : Blk w gl 36 #[.int .i64 k, .string s, .string t, .int .i64 nn, .int .i64 mm, .slice A n c, .slice A2 n2 c2]) (hr : Reads w B A n D) (hB : B ≤ w.heap.size)
    (hc : n ≤ c) (hcm : c ≤ 9223372036854775807) (hA : A = none → n = 0 ∧ c = 0) (hs : s.size ≤ 9223372036854775807) (ht : t.size ≤ 9223372036854775807) (hc2 : n2 ≤ c2) (hcm2 : c2 ≤ 9223372036854775807) (hA2 : 0 < n2 → ∃ b o, A2 = some ⟨b, o, none⟩) :
    Calls Tryz.prog 4 #[.slice (some ⟨gl, 0, none⟩) 1 1, .int .i64 1] w fun e w' => (∃ ov A' c', e = .returned ov ∧ w'.ownsRow w.heap.size 36 7 ov 1 [.int .i64 k, .string (shB 30 s), .string (shB 30 t), .int .i64 nn, .int .i64 mm, .slice A' (D.take 100).length c', .slice A2 (min n2 60) c2] ∧ w'.ownsRow w.heap.size 5 1 (.slice A' (D.take 100).length c') (D.take 100).length (bytesV (D.take 100))) ∧ Still w w' := by
  obtain ⟨m, hm⟩ : ∃ m, m = min n 100 := ⟨_, rfl⟩
  have hml : (D.take 100).length = m := by rw [List.length_take, hr.1, hm]; omega
  rw [hml]
  have RT := Lib.hid (show Reads w B A m (D.take 100) by rw [hm]; exact hr.take 100)
  have CUT := Lib.hid (fun W (s : Still w W) => show Calls Tryz.prog 16 #[.slice A n c, .int .i64 100] W fun e w' => e = .returned (.slice A m c) ∧ W = w' from by rw [hm]; exact cut_any A n c 100 D W _ (hr.still hB s) hc hcm (by omega))
  have CP := Lib.hid (fun W (s : Still w W) => copy_any A m c (D.take 100) W _ (RT.out.still hB s) (by omega) (fun e => ⟨by have := (hA e).1; omega, (hA e).2⟩))
  have SH0 := Lib.hid (fun W => short_k s 30 W hs)
  have TH0 := Lib.hid (fun W => short_k t 30 W ht)
  obtain ⟨s3, hs3⟩ : ∃ s3, s3 = shB 30 s := ⟨_, rfl⟩
  obtain ⟨t3, ht3⟩ : ∃ t3, t3 = shB 30 t := ⟨_, rfl⟩
  rw [← hs3] at SH0 ⊢
  rw [← ht3] at TH0 ⊢
  have SH : Hid (∀ W, Calls Tryz.prog 14 #[.string s, .int .i64 30] W fun e w' => e = .returned (.string s3) ∧ W = w') := SH0
  have TH : Hid (∀ W, Calls Tryz.prog 14 #[.string t, .int .i64 30] W fun e w' => e = .returned (.string t3) ∧ W = w') := TH0
  obtain ⟨m2, hm2⟩ : ∃ m2, m2 = min n2 60 := ⟨_, rfl⟩
  have NU := Lib.hid (fun W => numbers_any A2 n2 c2 W hc2 hcm2 hA2)
  rw [← hm2] at NU ⊢
  have EB := Lib.hid hl
  clear SH0 TH0 hs3 ht3 hm2 hm hml hr hB hc hcm hA hl hs ht hc2 hcm2 hA2
  go_enter Tryz.func4, Tryz.ntmps4
  go_wp2_with fail
  go_loopw [5, 6] (fun ov iv wr => ∃ j : Nat, j ≤ 1 ∧ iv = .int .i64 j ∧ ((j = 0 ∧ ov = .slice none 0 0 ∧ wr = w) ∨ (j = 1 ∧ Hid ((∃ A' c', wr.ownsRow w.heap.size 36 7 ov 1 [.int .i64 k, .string s3, .string t3, .int .i64 nn, .int .i64 mm, .slice A' m c', .slice A2 m2 c2] ∧ wr.ownsRow w.heap.size 5 1 (.slice A' m c') m (bytesV (D.take 100))) ∧ Still w wr)))) (fun _ iv _ => 1 - (intOf iv).toNat)
  case atStart => exact ⟨0, by omega, rfl, .inl ⟨rfl, rfl, rfl⟩⟩
  case round =>
    obtain ⟨j, hj, rfl, hcase⟩ := hrel
    rcases hcase with ⟨rfl, rfl, hw⟩ | ⟨rfl, hin⟩
    · have hw' := hw.symm
      subst hw'
      clear hw
      have i0 : (((0 : Nat) : Int)) = 0 := rfl
      obtain ⟨g, hg⟩ : ∃ g, g = w.heap.size := ⟨_, rfl⟩
      have S1 := Lib.hid ((Still.refl w).alloc (Nat.le_refl _) (.cells #[.int .i64 0, .string ⟨#[]⟩, .string ⟨#[]⟩, .int .i64 0, .int .i64 0, .slice none 0 0, .slice none 0 0] 36))
      have B1 := Lib.hid (Blk.new w 36 #[.int .i64 0, .string ⟨#[]⟩, .string ⟨#[]⟩, .int .i64 0, .int .i64 0, .slice none 0 0, .slice none 0 0])
      go_upto_region 6 with (first
        | (guard_target =~ wpList _ _ _ (Oper.mk _ (Op.load _ _) _ _ _ _ :: _) _ _; go_must (refine wpList_loadDo rfl (.tmp 21) rfl gl (by kernel_rfl) #[.int .i64 k, .string s, .string t, .int .i64 nn, .int .i64 mm, .slice A n c, .slice A2 n2 c2] rfl EB.out ?_))
        | (guard_target =~ wpList _ _ _ (Oper.mk _ (Op.alloc _) _ _ _ _ :: _) _ _; go_must (refine wpList_allocDo rfl rfl (some 7) rfl ?_))
        | (guard_target =~ wpList _ _ _ (Oper.mk _ (Op.store _ _ _) _ _ _ _ :: _) _ _; go_must (refine wpList_storeDo rfl (.tmp 7) (.tmp 22) rfl w.heap.size (by kernel_rfl) #[.int .i64 k, .string s, .string t, .int .i64 nn, .int .i64 mm, .slice A n c, .slice A2 n2 c2] _ (by kernel_rfl) rfl rfl (by kernel_rfl) B1.out ?_)))
      rw [← hg]
      obtain ⟨w1, hw1⟩ : ∃ w1, w1 = (w.alloc (.cells #[.int .i64 0, .string ⟨#[]⟩, .string ⟨#[]⟩, .int .i64 0, .int .i64 0, .slice none 0 0, .slice none 0 0] 36)).setRow g #[.int .i64 k, .string s, .string t, .int .i64 nn, .int .i64 mm, .slice A n c, .slice A2 n2 c2] := ⟨_, rfl⟩
      rw [← hw1]
      have S2 := Lib.hid (show Still w w1 by rw [hw1]; exact below_setRow S1.out (by rw [hg]; exact Nat.le_refl _) _)
      have B2 := Lib.hid (show Blk w1 g 36 #[.int .i64 k, .string s, .string t, .int .i64 nn, .int .i64 mm, .slice A n c, .slice A2 n2 c2] by rw [hw1, hg]; exact setRow_heap _ _ _ _ _ _ B1.out)
      clear hw1 S1 B1
      have SOK := Lib.hid (show ∀ W, Still w1 W → W.cell? ⟨g, 1, none⟩ = some (.string s) ∧ W.cell? ⟨g, 2, none⟩ = some (.string t) ∧ W.cell? ⟨g, 5, none⟩ = some (.slice A n c) ∧ W.cell? ⟨g, 6, none⟩ = some (.slice A2 n2 c2) from fun W s => ⟨(B2.out.still s).cell 1, (B2.out.still s).cell 2, (B2.out.still s).cell 5, (B2.out.still s).cell 6⟩)
      have HG := Lib.hid hg
      clear hg
      refine wp_region_late (S := fun W => W.cell? ⟨g, 1, none⟩ = some (.string s) ∧ W.cell? ⟨g, 2, none⟩ = some (.string t) ∧ W.cell? ⟨g, 5, none⟩ = some (.slice A n c) ∧ W.cell? ⟨g, 6, none⟩ = some (.slice A2 n2 c2)) [14, 16, 18, 20] (by kernel_rfl) (SOK.out _ ((Still.refl _).drew)) (fun hHeld => ?_)
      obtain ⟨wa, hwa⟩ : ∃ wa, wa = w1.drew := ⟨_, rfl⟩
      have SA := Lib.hid (show Still w1 wa by rw [hwa]; exact (Still.refl _).drew)
      try rw [← hwa] at hHeld
      rw [← hwa]
      clear hwa
      try simp only [Act.put, List.setIfInBounds_toArray, List.set_cons_zero, List.set_cons_succ]
      refine wpLate_pure (i := 0) (v := .pointer (some ⟨g, 1, none⟩)) rfl (by kernel_rfl) (by kernel_rfl) (by kernel_rfl) (by kernel_rfl) (fun _ _ _ h => h) (Or.inl ⟨by kernel_rfl, fun w _ => by go_simp⟩) ?_
      try simp only [Act.put, List.setIfInBounds_toArray, List.set_cons_zero, List.set_cons_succ]
      refine wpLate_take (i := 1) (v := .string s) [2, 5, 8, 9, 12, 14, 16, 18, 20] rfl (by kernel_rfl) (by kernel_rfl) (by kernel_rfl) (by kernel_rfl) (by kernel_rfl) (by decide) (fun _ _ _ h => h) (Or.inl ⟨by kernel_rfl, fun w hS => by obtain ⟨h0, h1, h2, h3⟩ := hS; go_simp⟩) (by assumption) (fun hHeld => ?_)
      try simp only [Act.put, List.setIfInBounds_toArray, List.set_cons_zero, List.set_cons_succ]
      refine wpLate_pure (i := 3) (v := .pointer (some ⟨g, 2, none⟩)) rfl (by kernel_rfl) (by kernel_rfl) (by kernel_rfl) (by kernel_rfl) (fun _ _ _ h => h) (Or.inl ⟨by kernel_rfl, fun w _ => by go_simp⟩) ?_
      try simp only [Act.put, List.setIfInBounds_toArray, List.set_cons_zero, List.set_cons_succ]
      refine wpLate_take (i := 4) (v := .string t) [5, 8, 9, 12, 14, 16, 18, 20] rfl (by kernel_rfl) (by kernel_rfl) (by kernel_rfl) (by kernel_rfl) (by kernel_rfl) (by decide) (fun _ _ _ h => h) (Or.inl ⟨by kernel_rfl, fun w hS => by obtain ⟨h0, h1, h2, h3⟩ := hS; go_simp⟩) (by assumption) (fun hHeld => ?_)
      try simp only [Act.put, List.setIfInBounds_toArray, List.set_cons_zero, List.set_cons_succ]
      refine wpLate_pure (i := 6) (v := .pointer (some ⟨g, 5, none⟩)) rfl (by kernel_rfl) (by kernel_rfl) (by kernel_rfl) (by kernel_rfl) (fun _ _ _ h => h) (Or.inl ⟨by kernel_rfl, fun w _ => by go_simp⟩) ?_
      try simp only [Act.put, List.setIfInBounds_toArray, List.set_cons_zero, List.set_cons_succ]
      refine wpLate_take (i := 7) (v := .slice A n c) [8, 9, 12, 14, 16, 18, 20] rfl (by kernel_rfl) (by kernel_rfl) (by kernel_rfl) (by kernel_rfl) (by kernel_rfl) (by decide) (fun _ _ _ h => h) (Or.inl ⟨by kernel_rfl, fun w hS => by obtain ⟨h0, h1, h2, h3⟩ := hS; go_simp⟩) (by assumption) (fun hHeld => ?_)
      try simp only [Act.put, List.setIfInBounds_toArray, List.set_cons_zero, List.set_cons_succ]
      refine wpLate_pure (i := 10) (v := .pointer (some ⟨g, 6, none⟩)) rfl (by kernel_rfl) (by kernel_rfl) (by kernel_rfl) (by kernel_rfl) (fun _ _ _ h => h) (Or.inl ⟨by kernel_rfl, fun w _ => by go_simp⟩) ?_
      try simp only [Act.put, List.setIfInBounds_toArray, List.set_cons_zero, List.set_cons_succ]
      refine wpLate_take (i := 11) (v := .slice A2 n2 c2) [12, 14, 16, 18, 20] rfl (by kernel_rfl) (by kernel_rfl) (by kernel_rfl) (by kernel_rfl) (by kernel_rfl) (by decide) (fun _ _ _ h => h) (Or.inl ⟨by kernel_rfl, fun w hS => by obtain ⟨h0, h1, h2, h3⟩ := hS; go_simp⟩) (by assumption) (fun hHeld => ?_)
      try simp only [Act.put, List.setIfInBounds_toArray, List.set_cons_zero, List.set_cons_succ]
      clear hHeld
      refine wpLate_one (i := 2) (o := ⟨some 25, .call { callee := .value (.func 14), args := #[.tmp 24, .const (.int .i64 30)], argTypes := #[9, 3] }, _, _, _, none⟩) (by kernel_rfl) rfl (fun K' hK' => ?_)
      go_simp
      go_wp2_with (go_at_call 14; refine (SH.out _).mono ?_; rintro e w2 ⟨rfl, rfl⟩)
      refine hK'.out _ _ (fun h _ => SOK.out _ SA.out) ?_
      clear hK' K'
      try simp only [Act.put, List.setIfInBounds_toArray, List.set_cons_zero, List.set_cons_succ]
      refine wpLate_pure (i := 13) (v := .pointer (some ⟨g, 1, none⟩)) rfl (by kernel_rfl) (by kernel_rfl) (by kernel_rfl) (by kernel_rfl) (fun _ _ _ h => h) (Or.inl ⟨by kernel_rfl, fun w _ => by go_simp⟩) ?_
      try simp only [Act.put, List.setIfInBounds_toArray, List.set_cons_zero, List.set_cons_succ]
      refine wpLate_one (i := 5) (o := ⟨some 28, .call { callee := .value (.func 14), args := #[.tmp 27, .const (.int .i64 30)], argTypes := #[9, 3] }, _, _, _, none⟩) (by kernel_rfl) rfl (fun K' hK' => ?_)
      go_simp
      go_wp2_with (go_at_call 14; refine (TH.out _).mono ?_; rintro e w2 ⟨rfl, rfl⟩)
      refine hK'.out _ _ (fun h _ => SOK.out _ SA.out) ?_
      clear hK' K'
      try simp only [Act.put, List.setIfInBounds_toArray, List.set_cons_zero, List.set_cons_succ]
      refine wpLate_one (i := 8) (o := ⟨some 31, .call { callee := .value (.func 16), args := #[.tmp 30, .const (.int .i64 100)], argTypes := #[31, 3] }, _, _, _, none⟩) (by kernel_rfl) rfl (fun K' hK' => ?_)
      go_simp
      go_wp2_with (go_at_call 16; refine (CUT.out _ (S2.out.trans SA.out)).mono ?_; rintro e w2 ⟨rfl, rfl⟩)
      refine hK'.out _ _ (fun h _ => SOK.out _ SA.out) ?_
      clear hK' K'
      try simp only [Act.put, List.setIfInBounds_toArray, List.set_cons_zero, List.set_cons_succ]
      refine wpLate_one (i := 9) (o := ⟨some 32, .call { callee := .value (.func 15), args := #[.tmp 31], argTypes := #[31] }, _, _, _, none⟩) (by kernel_rfl) rfl (fun K' hK' => ?_)
      go_simp
      go_wp2_with (go_at_call 15; refine (CP.out _ (S2.out.trans SA.out)).mono ?_; rintro e w3 ⟨⟨v3, rfl, own3⟩, s3⟩; have S3 := Lib.hid (SA.out.trans s3))
      obtain ⟨A3, c3, rfl, f1, f2, f3⟩ := own_form own3
      have O3 := Lib.hid own3
      have ZA := Lib.hid (show w1.heap.size ≤ wa.heap.size from SA.out.size)
      clear own3 f1 f2 f3 s3
      refine hK'.out _ _ (fun h _ => SOK.out _ S3.out) ?_
      clear hK' K'
      try simp only [Act.put, List.setIfInBounds_toArray, List.set_cons_zero, List.set_cons_succ]
      refine wpLate_one (i := 12) (o := ⟨some 35, .call { callee := .value (.func 17), args := #[.tmp 34, .const (.int .i64 60)], argTypes := #[34, 3] }, _, _, _, none⟩) (by kernel_rfl) rfl (fun K' hK' => ?_)
      go_simp
      go_wp2_with (go_at_call 17; refine (NU.out _).mono ?_; rintro e w2 ⟨rfl, rfl⟩)
      refine hK'.out _ _ (fun h _ => SOK.out _ S3.out) ?_
      clear hK' K'
      try simp only [Act.put, List.setIfInBounds_toArray, List.set_cons_zero, List.set_cons_succ]
      have B3 := Lib.hid (B2.out.still S3.out)
      have K3 := Lib.hid (S2.out.trans S3.out)
      have GB := Lib.hid (show g < wa.heap.size from Nat.lt_of_lt_of_le B2.out.lt SA.out.size)
      have GH := Lib.hid (show w.heap.size ≤ g by rw [HG.out]; exact Nat.le_refl _)
      have WA := Lib.hid (show w.heap.size ≤ wa.heap.size from Nat.le_trans S2.out.size SA.out.size)
      clear B2 S3 S2 SA SOK HG ZA
      refine wpLate_one (i := 14) (o := ⟨none, .store 9 (.tmp 36) (.tmp 25), _, _, _, none⟩) (by kernel_rfl) rfl (fun K' hK' => ?_)
      rw [if_pos (by kernel_rfl)]
      have kc : w3.cell? ⟨g, 1, none⟩ = some (.string s) := B3.out.cell 1
      have kf := B3.out.frozen 1
      with_reducible refine step_storeC w3 9 (.tmp 36) (.tmp 25) (by kernel_rfl) g 1 (.string s3) (.string s) (by kernel_rfl) (by kernel_rfl) rfl (by kernel_rfl) kc kf ?_
      clear kc kf
      obtain ⟨w4, hw4⟩ : ∃ w4, w4 = w3.setCell ⟨g, 1, none⟩ (.string s3) := ⟨_, rfl⟩
      have ST := Lib.hid (show Blk w4 g 36 #[.int .i64 k, .string s3, .string t, .int .i64 nn, .int .i64 mm, .slice A n c, .slice A2 n2 c2] ∧ Still w w4 ∧ w4.ownsRow wa.heap.size 5 1 (.slice A3 m c3) m (bytesV (D.take 100)) from by rw [hw4]; exact stored B3.out K3.out GH.out O3.out GB.out)
      rw [← hw4]
      have B4 := Lib.hid ST.out.1
      have K4 := Lib.hid ST.out.2.1
      have O4 := Lib.hid ST.out.2.2
      clear hw4 ST B3 K3 O3
      refine hK'.out _ _ (fun _ hu => absurd hu (by decide)) ?_
      clear hK' K'
      try simp only [Act.put, List.setIfInBounds_toArray, List.set_cons_zero, List.set_cons_succ]
      refine wpLate_pure (i := 15) (v := .pointer (some ⟨g, 2, none⟩)) rfl (by kernel_rfl) (by kernel_rfl) (by kernel_rfl) (by kernel_rfl) (fun _ _ _ h => h) (Or.inl ⟨by kernel_rfl, fun w _ => by go_simp⟩) ?_
      try simp only [Act.put, List.setIfInBounds_toArray, List.set_cons_zero, List.set_cons_succ]
      refine wpLate_one (i := 16) (o := ⟨none, .store 9 (.tmp 37) (.tmp 28), _, _, _, none⟩) (by kernel_rfl) rfl (fun K' hK' => ?_)
      rw [if_pos (by kernel_rfl)]
      have kc : w4.cell? ⟨g, 2, none⟩ = some (.string t) := B4.out.cell 2
      have kf := B4.out.frozen 2
      with_reducible refine step_storeC w4 9 (.tmp 37) (.tmp 28) (by kernel_rfl) g 2 (.string t3) (.string t) (by kernel_rfl) (by kernel_rfl) rfl (by kernel_rfl) kc kf ?_
      clear kc kf
      obtain ⟨w5, hw5⟩ : ∃ w5, w5 = w4.setCell ⟨g, 2, none⟩ (.string t3) := ⟨_, rfl⟩
      have ST := Lib.hid (show Blk w5 g 36 #[.int .i64 k, .string s3, .string t3, .int .i64 nn, .int .i64 mm, .slice A n c, .slice A2 n2 c2] ∧ Still w w5 ∧ w5.ownsRow wa.heap.size 5 1 (.slice A3 m c3) m (bytesV (D.take 100)) from by rw [hw5]; exact stored B4.out K4.out GH.out O4.out GB.out)
      rw [← hw5]
      have B5 := Lib.hid ST.out.1
      have K5 := Lib.hid ST.out.2.1
      have O5 := Lib.hid ST.out.2.2
      clear hw5 ST B4 K4 O4
      refine hK'.out _ _ (fun _ hu => absurd hu (by decide)) ?_
      clear hK' K'
      try simp only [Act.put, List.setIfInBounds_toArray, List.set_cons_zero, List.set_cons_succ]
      refine wpLate_pure (i := 17) (v := .pointer (some ⟨g, 5, none⟩)) rfl (by kernel_rfl) (by kernel_rfl) (by kernel_rfl) (by kernel_rfl) (fun _ _ _ h => h) (Or.inl ⟨by kernel_rfl, fun w _ => by go_simp⟩) ?_
      try simp only [Act.put, List.setIfInBounds_toArray, List.set_cons_zero, List.set_cons_succ]
      refine wpLate_one (i := 18) (o := ⟨none, .store 31 (.tmp 38) (.tmp 32), _, _, _, none⟩) (by kernel_rfl) rfl (fun K' hK' => ?_)
      rw [if_pos (by kernel_rfl)]
      have kc : w5.cell? ⟨g, 5, none⟩ = some (.slice A n c) := B5.out.cell 5
      have kf := B5.out.frozen 5
      with_reducible refine step_storeC w5 31 (.tmp 38) (.tmp 32) (by kernel_rfl) g 5 (.slice A3 m c3) (.slice A n c) (by kernel_rfl) (by kernel_rfl) rfl (by kernel_rfl) kc kf ?_
      clear kc kf
      obtain ⟨w6, hw6⟩ : ∃ w6, w6 = w5.setCell ⟨g, 5, none⟩ (.slice A3 m c3) := ⟨_, rfl⟩
      have ST := Lib.hid (show Blk w6 g 36 #[.int .i64 k, .string s3, .string t3, .int .i64 nn, .int .i64 mm, .slice A3 m c3, .slice A2 n2 c2] ∧ Still w w6 ∧ w6.ownsRow wa.heap.size 5 1 (.slice A3 m c3) m (bytesV (D.take 100)) from by rw [hw6]; exact stored B5.out K5.out GH.out O5.out GB.out)
      rw [← hw6]
      have B6 := Lib.hid ST.out.1
      have K6 := Lib.hid ST.out.2.1
      have O6 := Lib.hid ST.out.2.2
      clear hw6 ST B5 K5 O5
      refine hK'.out _ _ (fun _ hu => absurd hu (by decide)) ?_
      clear hK' K'
      try simp only [Act.put, List.setIfInBounds_toArray, List.set_cons_zero, List.set_cons_succ]
      refine wpLate_pure (i := 19) (v := .pointer (some ⟨g, 6, none⟩)) rfl (by kernel_rfl) (by kernel_rfl) (by kernel_rfl) (by kernel_rfl) (fun _ _ _ h => h) (Or.inl ⟨by kernel_rfl, fun w _ => by go_simp⟩) ?_
      try simp only [Act.put, List.setIfInBounds_toArray, List.set_cons_zero, List.set_cons_succ]
      refine wpLate_one (i := 20) (o := ⟨none, .store 34 (.tmp 39) (.tmp 35), _, _, _, none⟩) (by kernel_rfl) rfl (fun K' hK' => ?_)
      rw [if_pos (by kernel_rfl)]
      have kc : w6.cell? ⟨g, 6, none⟩ = some (.slice A2 n2 c2) := B6.out.cell 6
      have kf := B6.out.frozen 6
      with_reducible refine step_storeC w6 34 (.tmp 39) (.tmp 35) (by kernel_rfl) g 6 (.slice A2 m2 c2) (.slice A2 n2 c2) (by kernel_rfl) (by kernel_rfl) rfl (by kernel_rfl) kc kf ?_
      clear kc kf
      obtain ⟨w7, hw7⟩ : ∃ w7, w7 = w6.setCell ⟨g, 6, none⟩ (.slice A2 m2 c2) := ⟨_, rfl⟩
      have ST := Lib.hid (show Blk w7 g 36 #[.int .i64 k, .string s3, .string t3, .int .i64 nn, .int .i64 mm, .slice A3 m c3, .slice A2 m2 c2] ∧ Still w w7 ∧ w7.ownsRow wa.heap.size 5 1 (.slice A3 m c3) m (bytesV (D.take 100)) from by rw [hw7]; exact stored B6.out K6.out GH.out O6.out GB.out)
      rw [← hw7]
      have B7 := Lib.hid ST.out.1
      have K7 := Lib.hid ST.out.2.1
      have O7 := Lib.hid ST.out.2.2
      clear hw7 ST B6 K6 O6
      refine hK'.out _ _ (fun _ hu => absurd hu (by decide)) ?_
      clear hK' K'
      try simp only [Act.put, List.setIfInBounds_toArray, List.set_cons_zero, List.set_cons_succ]
      refine wpLate_done (by kernel_rfl) ?_ _
      go_wp2_with (first
        | (guard_target =~ wpList _ _ _ (Oper.mk _ (Op.load _ _) _ _ _ _ :: _) _ _; go_must (refine wpList_loadDo rfl (.tmp 7) rfl g (by kernel_rfl) #[.int .i64 k, .string s3, .string t3, .int .i64 nn, .int .i64 mm, .slice A3 m c3, .slice A2 m2 c2] rfl B7.out ?_))
        | (guard_target =~ wpList _ _ _ (Oper.mk _ (Op.buildSlice _ _ _) _ _ _ _ :: _) _ _; go_must (refine wpList_boxDo w7 rfl (.tmp 41) rfl k s3 t3 nn mm A3 m c3 A2 m2 c2 (by kernel_rfl) ?_))
        | (at_builtin; go_must (refine wpList_pushDo _ rfl (.tmp 40) (.tmp 42) rfl w.heap.size _ 0 [] rfl (World.ownsRow_nil _ _ _ _) w7.heap.size [.int .i64 k, .string s3, .string t3, .int .i64 nn, .int .i64 mm, .slice A3 m c3, .slice A2 m2 c2] (by kernel_rfl) ?hc rfl ?h1 (by omega) ?hb ?_)))
      case hc => exact fun q u hq => (Blk.new w7 36 #[.int .i64 k, .string s3, .string t3, .int .i64 nn, .int .i64 mm, .slice A3 m c3, .slice A2 m2 c2]).cell q |>.trans (by simpa using hq)
      case h1 => intro u hu; simp at hu; rcases hu with rfl | rfl | rfl | rfl | rfl | rfl | rfl <;> rfl
      case hb => exact Nat.le_trans K7.out.size ((Still.refl w7).alloc (Nat.le_refl _) _).size
      intro v8 w8 own8 gr8 loc8
      have FI := Lib.hid (show (∃ A' c', w8.ownsRow w.heap.size 36 7 v8 1 [.int .i64 k, .string s3, .string t3, .int .i64 nn, .int .i64 mm, .slice A' m c', .slice A2 m2 c2] ∧ w8.ownsRow w.heap.size 5 1 (.slice A' m c') m (bytesV (D.take 100))) ∧ Still w w8 from by
        have s8 : Still w7 (w7.alloc (.cells #[.int .i64 k, .string s3, .string t3, .int .i64 nn, .int .i64 mm, .slice A3 m c3, .slice A2 m2 c2] 36)) := (Still.refl w7).alloc (Nat.le_refl _) _
        refine ⟨⟨A3, c3, own8, ?_⟩, (K7.out.trans s8).grown gr8 (Nat.le_trans K7.out.size s8.size) (fun k hk => by simp [Value.ownBlock] at hk)⟩
        exact own_apart (own_still (own_low O7.out WA.out) s8) (World.ownsRow_nil _ w.heap.size 36 7) (by decide) gr8)
      clear own8 gr8 loc8 B7 K7 O7
      go_wp2_with fail
      go_roundw
      case rel => exact ⟨1, by omega, by go_num, .inr ⟨rfl, FI.out⟩⟩
      case measure => simp [intOf]
    · obtain ⟨⟨A', c', h1, h2⟩, h3⟩ := hin.out
      have O1 := Lib.hid h1
      have O2 := Lib.hid h2
      have S3 := Lib.hid h3
      clear h1 h2 h3 hin
      go_wp2_with fail
      go_ret
      exact ⟨⟨_, A', c', rfl, O1.out, O2.out⟩, S3.out⟩
end Go.Proofs.YtljacdbdjacbkaaGreat
