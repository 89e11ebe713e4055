/- Contracts and facts, several texts in one. It proves no statement. -/
import Derived.Test.YtljacdbdjacbkaaGreatDoorSnzg
import Derived.Deep.MidRow
import Derived.Deep.RegionHeld
import Derived.Test.YtljacdbdjacbkaaGreatDoorSnzh

/- The document's own few entries: one of them. It proves no statement. -/



namespace Go.Proofs.YtljacdbdjacbkaaGreatDoor
open Go.RowKit
set_option linter.unusedVariables false
set_option linter.unusedSimpArgs false

theorem Tryz.infoEnt : (Tryz.prog.info? 44).map (fun i => (i.zero, i.size, i.bytes)) = some (some (.agg (entV 0 (List.replicate 32 0) (.slice none 0 0))), 34, 64) := by kernel_rfl
theorem list32 (K : List UInt8) (h : K.length = 32) : ∃ k0 k1 k2 k3 k4 k5 k6 k7 k8 k9 k10 k11 k12 k13 k14 k15 k16 k17 k18 k19 k20 k21 k22 k23 k24 k25 k26 k27 k28 k29 k30 k31, K = [k0, k1, k2, k3, k4, k5, k6, k7, k8, k9, k10, k11, k12, k13, k14, k15, k16, k17, k18, k19, k20, k21, k22, k23, k24, k25, k26, k27, k28, k29, k30, k31] := by
  match K, h with
  | [k0, k1, k2, k3, k4, k5, k6, k7, k8, k9, k10, k11, k12, k13, k14, k15, k16, k17, k18, k19, k20, k21, k22, k23, k24, k25, k26, k27, k28, k29, k30, k31], _ => exact ⟨k0, k1, k2, k3, k4, k5, k6, k7, k8, k9, k10, k11, k12, k13, k14, k15, k16, k17, k18, k19, k20, k21, k22, k23, k24, k25, k26, k27, k28, k29, k30, k31, rfl⟩
set_option maxRecDepth 100000 in
theorem built_ent (t : Int) (K : List UInt8) (hK : K.length = 32) (v : Value) (hv : ∃ A n c, v = .slice A n c) : Tryz.prog.built 44 [(0, .int .i64 t), (1, .agg (bytesV K).toArray), (2, v)] = some (entV t K v) := by
  obtain ⟨k0, k1, k2, k3, k4, k5, k6, k7, k8, k9, k10, k11, k12, k13, k14, k15, k16, k17, k18, k19, k20, k21, k22, k23, k24, k25, k26, k27, k28, k29, k30, k31, rfl⟩ := list32 K hK
  obtain ⟨A, n, c, rfl⟩ := hv
  kernel_rfl
set_option maxRecDepth 100000 in
theorem fill_ent (t : Int) (K : List UInt8) (hK : K.length = 32) (v : Value) (hv : ∃ A n c, v = .slice A n c) :
    Instr.fill (fun i => some (i * 34, 34)) ((Array.range (1 * 34)).map ((Value.agg (entV 0 (List.replicate 32 0) (.slice none 0 0))).cells[· % (Value.agg (entV 0 (List.replicate 32 0) (.slice none 0 0))).cells.size]!)) [(0, .agg (entV t K v))] = some (entV t K v) := by
  obtain ⟨k0, k1, k2, k3, k4, k5, k6, k7, k8, k9, k10, k11, k12, k13, k14, k15, k16, k17, k18, k19, k20, k21, k22, k23, k24, k25, k26, k27, k28, k29, k30, k31, rfl⟩ := list32 K hK
  obtain ⟨A, n, c, rfl⟩ := hv
  kernel_rfl
/-- '[]Entry{x}', one operation. -/
theorem step_boxE (w : World) {o : Oper} {a : Act} {K' : Act → World → Prop} {Q : Exit → Act → World → Prop} (x : Operand)
    (ho : o.op = .buildSlice 75 1 #[(0, x)]) (t : Int) (K : List UInt8) (hK : K.length = 32) (v : Value) (hv : ∃ A n c, v = .slice A n c) (hx : a.eval x = .agg (entV t K v))
    (h : K' (a.put o.dst (.slice (some ⟨w.heap.size, 0, none⟩) 1 1)) (w.alloc (.cells (entV t K v) 44))) : o.wp Tryz.prog a w K' Q := by
  obtain ⟨i0, hi, hz0, hz1, hz2⟩ := info_parts Tryz.infoEnt
  refine wp_buildSlice 75 44 1 #[(0, x)] ho (entV t K v) i0 _ Tryz.underlying75 hi hz0 (by rw [hz1]; decide) (by rw [hz1]; decide) ?_ h
  rw [hz1]
  simp only [List.map_toArray, List.map_cons, List.map_nil, hx]
  exact fill_ent t K hK v hv
theorem wpList_boxE (w : World) {ops : Array Oper} {rest : List Oper} {o : Oper} {a : Act} {Q : Exit → Act → World → Prop} (hgd : o.guard = none) (x : Operand)
    (ho : o.op = .buildSlice 75 1 #[(0, x)]) (t : Int) (K : List UInt8) (hK : K.length = 32) (v : Value) (hv : ∃ A n c, v = .slice A n c) (hx : a.eval x = .agg (entV t K v))
    (h : wpList Tryz.prog ops Q rest (a.put o.dst (.slice (some ⟨w.heap.size, 0, none⟩) 1 1)) (w.alloc (.cells (entV t K v) 44))) : wpList Tryz.prog ops Q (o :: rest) a w :=
  wpList_plain hgd fun _ hQ => step_boxE w x ho t K hK v hv hx (hQ _ _ h)
theorem run_buildE (ρ : Operand → Value) (o : Oper) (x y z : Operand) (ho : o.op = .build 44 #[(0, x), (1, y), (2, z)]) (t : Int) (K : List UInt8) (hK : K.length = 32) (v : Value) (hv : ∃ A n c, v = .slice A n c)
    (hx : ρ x = .int .i64 t) (hy : ρ y = .agg (bytesV K).toArray) (hz : ρ z = v) (W : World) : (execOp ρ o).run Tryz.prog W = .ok (.value (.agg (entV t K v))) W := by
  have hb := run_build (P := Tryz.prog) W 44 _ _ (built_ent t K hK v hv)
  unfold execOp
  simp only [ho, Sem.run_bind, List.map_toArray, List.map_cons, List.map_nil, hx, hy, hz, hb, Result.andThen_ok]
  rfl
/-- 'append(out, x)', one operation. -/
theorem step_pushE (w : World) {o : Oper} {a : Act} {K : Act → World → Prop} {Q : Exit → Act → World → Prop} (s x : Operand)
    (ho : o.op = .call { callee := .builtin .append, args := #[s, x], argTypes := #[75, 75] })
    (base : Nat) (v : Value) (n : Nat) (xs : List Value) (hs : a.eval s = v) (hown : w.ownsRow base 44 34 v n xs) (gb : Nat) (cs : List Value)
    (hx : a.eval x = .slice (some ⟨gb, 0, none⟩) 1 1) (hc : ∀ q u, cs[q]? = some u → w.cell? ⟨gb, q, none⟩ = some u) (hc6 : cs.length = 34) (h1 : ∀ u ∈ cs, u.oneCell' = true) (hn : n ≤ 1048576) (hbase : base ≤ w.heap.size)
    (h : ∀ v' w', w'.ownsRow base 44 34 v' (n + 1) (xs ++ cs) → w.grownBy w' v.ownBlock → (v'.ownBlock = v.ownBlock ∨ v'.ownBlock = some w.heap.size) → K (a.put o.dst v') w') :
    o.wp Tryz.prog a w K Q := by
  obtain ⟨i0, hi, hz0, hz1, hz2⟩ := info_parts Tryz.infoEnt
  obtain ⟨v', w', hrun, h2, h3, _, h5⟩ := run_append_own_at (P := Tryz.prog) w base 75 o.type 44 i0 _ 34 64 Tryz.underlying75 hi hz0 hz1 hz2 rfl (by decide) v n xs hown ⟨gb, 0, none⟩ 1 1 cs (by rw [hc6]) (fun j u hu => by
    rw [Addr.add_mid, Nat.zero_add]; exact hc j u hu) h1 (by unfold maxLen; omega) (by omega) hbase
  unfold Oper.wp execOp
  simp only [ho, resolve, invoke, builtin, Sem.run_bind, Sem.run_pure, Result.andThen_ok, List.map_toArray, List.map_cons, List.map_nil, hs, hx, hrun]
  exact h v' w' h2 h3 h5
theorem grown_still0 {w w' : World} {r : Option Nat} (b : Still w w') : w.grownBy w' r := ⟨b.os, b.tape, b.output, b.size, fun k hk _ => b.block k hk⟩
theorem entL_len (t : Int) (K : List UInt8) (v : Value) (h : K.length = 32) : (entL t K v).length = 34 := by have := entV_size t K v h; simpa [entV] using this
theorem entL_one (t : Int) (K : List UInt8) (v : Value) (h : v.oneCell' = true) : ∀ u ∈ entL t K v, u.oneCell' = true := by
  have h1 := entV_one t K v h
  intro u hu
  exact (Array.all_eq_true_iff_forall_mem.1 h1) u (by unfold entV; simpa using hu)

set_option maxRecDepth 100000 in
set_option maxHeartbeats 6400000 in
theorem few1_any (gl : Nat) (t : Int) (K D : List UInt8) (A : Option Addr) (n c L : Nat) (w : World) (B : Nat) (hK : K.length = 32) (hl : EntB w gl t K (.slice A n c)) (hr : Reads w B A n D) (hB : B ≤ w.heap.size) (hc : n ≤ c) (hcm : c ≤ 9223372036854775807) (hA : A = none → n = 0 ∧ c = 0) (hL : 1 ≤ L) (hL2 : L ≤ 1048576) :
    Calls Tryz.prog 40 #[.slice (some ⟨gl, 0, none⟩) 1 1, .int .i64 1, .int .i64 (L : Int)] w fun e w' => (∃ ov v', e = .returned ov ∧ w'.ownsRow w.heap.size 44 34 ov 1 (entL t K v') ∧ w'.ownsRow w.heap.size 5 1 v' (D.take L).length (bytesV (D.take L))) ∧ Still w w' := by
  obtain ⟨m, hm⟩ : ∃ m, m = min n L := ⟨_, rfl⟩
  have hml : (D.take L).length = m := by rw [List.length_take, hr.1, hm]; omega
  rw [hml]
  have RT := Lib.hid (show Reads w B A m (D.take L) by rw [hm]; exact hr.take L)
  have CUT := Lib.hid (fun W (s : Still w W) => show Calls Tryz.prog 97 #[.slice A n c, .int .i64 (L : Int)] W fun e w' => e = .returned (.slice A m c) ∧ W = w' from by rw [hm]; exact cut_any A n c L D W _ (hr.still hB s) hc hcm hL)
  have CP := Lib.hid (fun W (s : Still w W) => copy_any A m c (D.take L) W _ (RT.out.still hB s) (by omega) (fun e => ⟨by have := (hA e).1; omega, (hA e).2⟩))
  have EB := Lib.hid hl
  have HK := Lib.hid hK
  have SOK := Lib.hid (show ∀ W, Still w W → W.cell? ⟨gl, 0, none⟩ = some (.int .i64 t) ∧ W.rangeAt gl 1 (bytesV K) ∧ W.cell? ⟨gl, 33, none⟩ = some (.slice A n c) from fun W s => ⟨(EB.out.still s).tag, (EB.out.still s).key, (EB.out.still s).data hK⟩)
  clear hm hml hr hB hc hcm hA hL hL2 hl hK
  go_enter Tryz.func40, Tryz.ntmps40
  go_wp2_with fail
  go_loopw [7, 8] (fun ov iv wr => ∃ j : Nat, j ≤ 1 ∧ iv = .int .i64 j ∧ ((j = 0 ∧ ov = .slice none 0 0 ∧ wr = w) ∨ (j = 1 ∧ Hid (∃ v', wr.ownsRow w.heap.size 44 34 ov 1 (entL t K v') ∧ wr.ownsRow w.heap.size 5 1 v' m (bytesV (D.take L)) ∧ Still w wr)))) (fun _ iv _ => 1 - (intOf iv).toNat)
  case atStart => exact ⟨0, by omega, rfl, .inl ⟨rfl, rfl, rfl⟩⟩
  case round =>
    obtain ⟨j, hj, rfl, hcase⟩ := hrel
    rcases hcase with ⟨rfl, rfl, hw⟩ | ⟨rfl, hin⟩
    · have hw' := hw.symm
      subst hw'
      clear hw
      have i0 : (((0 : Nat) : Int)) = 0 := rfl
      go_upto_region 5 with fail
      refine wp_region_held_drew (S := fun W => W.cell? ⟨gl, 0, none⟩ = some (.int .i64 t) ∧ W.rangeAt gl 1 (bytesV K) ∧ W.cell? ⟨gl, 33, none⟩ = some (.slice A n c)) (by kernel_rfl) (SOK.out _ ((Still.refl _).drew)) (fun hHeld => ?_)
      obtain ⟨wa, hwa⟩ : ∃ wa, wa = w.drew := ⟨_, rfl⟩
      have SA := Lib.hid (show Still w wa by rw [hwa]; exact (Still.refl _).drew)
      try rw [← hwa] at hHeld
      rw [← hwa]
      clear hwa
      try simp only [Act.put, List.setIfInBounds_toArray, List.set_cons_zero, List.set_cons_succ]
      refine wpAnyH_take (i := 0) (v := .slice none 0 0) rfl (by kernel_rfl) (by kernel_rfl) (by kernel_rfl) (fun _ _ _ h => h) (Or.inl ⟨by kernel_rfl, fun w hS => by obtain ⟨h0, h1, h2⟩ := hS; go_simp⟩) (by assumption) ?_
      try simp only [Act.put, List.setIfInBounds_toArray, List.set_cons_zero, List.set_cons_succ]
      refine wpAnyH_take (i := 1) (v := .slice (some ⟨gl, 0, none⟩) 1 1) rfl (by kernel_rfl) (by kernel_rfl) (by kernel_rfl) (fun _ _ _ h => h) (Or.inl ⟨by kernel_rfl, fun w hS => by obtain ⟨h0, h1, h2⟩ := hS; go_simp⟩) (by assumption) ?_
      try simp only [Act.put, List.setIfInBounds_toArray, List.set_cons_zero, List.set_cons_succ]
      refine wpAnyH_take (i := 2) (v := .int .i64 0) rfl (by kernel_rfl) (by kernel_rfl) (by kernel_rfl) (fun _ _ _ h => h) (Or.inl ⟨by kernel_rfl, fun w hS => by obtain ⟨h0, h1, h2⟩ := hS; go_simp⟩) (by assumption) ?_
      try simp only [Act.put, List.setIfInBounds_toArray, List.set_cons_zero, List.set_cons_succ]
      refine wpAnyH_take (i := 3) (v := .pointer (some ⟨gl, 0, none⟩)) rfl (by kernel_rfl) (by kernel_rfl) (by kernel_rfl) (fun _ _ _ h => h) (Or.inl ⟨by kernel_rfl, fun w hS => by obtain ⟨h0, h1, h2⟩ := hS; go_simp⟩) (by assumption) ?_
      try simp only [Act.put, List.setIfInBounds_toArray, List.set_cons_zero, List.set_cons_succ]
      refine wpAnyH_take (i := 4) (v := .pointer (some ⟨gl, 0, none⟩)) rfl (by kernel_rfl) (by kernel_rfl) (by kernel_rfl) (fun _ _ _ h => h) (Or.inl ⟨by kernel_rfl, fun w hS => by obtain ⟨h0, h1, h2⟩ := hS; go_simp⟩) (by assumption) ?_
      try simp only [Act.put, List.setIfInBounds_toArray, List.set_cons_zero, List.set_cons_succ]
      refine wpAnyH_take (i := 5) (v := .int .i64 t) rfl (by kernel_rfl) (by kernel_rfl) (by kernel_rfl) (fun _ _ _ h => h) (Or.inl ⟨by kernel_rfl, fun w hS => by obtain ⟨h0, h1, h2⟩ := hS; go_simp⟩) (by assumption) ?_
      try simp only [Act.put, List.setIfInBounds_toArray, List.set_cons_zero, List.set_cons_succ]
      refine wpAnyH_take (i := 6) (v := .slice (some ⟨gl, 0, none⟩) 1 1) rfl (by kernel_rfl) (by kernel_rfl) (by kernel_rfl) (fun _ _ _ h => h) (Or.inl ⟨by kernel_rfl, fun w hS => by obtain ⟨h0, h1, h2⟩ := hS; go_simp⟩) (by assumption) ?_
      try simp only [Act.put, List.setIfInBounds_toArray, List.set_cons_zero, List.set_cons_succ]
      refine wpAnyH_take (i := 7) (v := .int .i64 0) rfl (by kernel_rfl) (by kernel_rfl) (by kernel_rfl) (fun _ _ _ h => h) (Or.inl ⟨by kernel_rfl, fun w hS => by obtain ⟨h0, h1, h2⟩ := hS; go_simp⟩) (by assumption) ?_
      try simp only [Act.put, List.setIfInBounds_toArray, List.set_cons_zero, List.set_cons_succ]
      refine wpAnyH_take (i := 8) (v := .pointer (some ⟨gl, 0, none⟩)) rfl (by kernel_rfl) (by kernel_rfl) (by kernel_rfl) (fun _ _ _ h => h) (Or.inl ⟨by kernel_rfl, fun w hS => by obtain ⟨h0, h1, h2⟩ := hS; go_simp⟩) (by assumption) ?_
      try simp only [Act.put, List.setIfInBounds_toArray, List.set_cons_zero, List.set_cons_succ]
      refine wpAnyH_take (i := 9) (v := .pointer (some ⟨gl, 1, none⟩)) rfl (by kernel_rfl) (by kernel_rfl) (by kernel_rfl) (fun _ _ _ h => h) (Or.inl ⟨by kernel_rfl, fun w hS => by obtain ⟨h0, h1, h2⟩ := hS; go_simp⟩) (by assumption) ?_
      try simp only [Act.put, List.setIfInBounds_toArray, List.set_cons_zero, List.set_cons_succ]
      refine wpAnyH_take (i := 10) (oi := ⟨some 30, .load 41 (.tmp 29), _, _, _, none⟩) (v := .agg (bytesV K).toArray) rfl (by kernel_rfl) (by kernel_rfl) (by kernel_rfl) (fun _ _ _ h => h) ?hy10 (by assumption) ?_
      case hy10 =>
        refine yieldsIf_load_mid ?hw 41 (.tmp 29) ?ho gl 1 ?hx (bytesV K) _ (fun w h => h.2.1) under32 rfl (by rw [size32, bytesV_length, HK.out])
        case hw => kernel_rfl
        case ho => rfl
        case hx => kernel_rfl
      try simp only [Act.put, List.setIfInBounds_toArray, List.set_cons_zero, List.set_cons_succ]
      refine wpAnyH_take (i := 11) (oi := ⟨some 31, .move (.tmp 0), _, _, _, none⟩) (v := .slice (some ⟨gl, 0, none⟩) 1 1) rfl (by kernel_rfl) (by kernel_rfl) (by kernel_rfl) (fun _ _ _ h => h) (Or.inl ⟨by kernel_rfl, fun w hS => by obtain ⟨h0, h1, h2⟩ := hS; go_simp⟩) (by assumption) ?_
      try simp only [Act.put, List.setIfInBounds_toArray, List.set_cons_zero, List.set_cons_succ]
      refine wpAnyH_take (i := 12) (oi := ⟨some 32, .move (.tmp 8), _, _, _, none⟩) (v := .int .i64 0) rfl (by kernel_rfl) (by kernel_rfl) (by kernel_rfl) (fun _ _ _ h => h) (Or.inl ⟨by kernel_rfl, fun w hS => by obtain ⟨h0, h1, h2⟩ := hS; go_simp⟩) (by assumption) ?_
      try simp only [Act.put, List.setIfInBounds_toArray, List.set_cons_zero, List.set_cons_succ]
      refine wpAnyH_take (i := 13) (oi := ⟨some 33, .indexAddr 75 (.tmp 31) (.tmp 32), _, _, _, none⟩) (v := .pointer (some ⟨gl, 0, none⟩)) rfl (by kernel_rfl) (by kernel_rfl) (by kernel_rfl) (fun _ _ _ h => h) (Or.inl ⟨by kernel_rfl, fun w hS => by obtain ⟨h0, h1, h2⟩ := hS; go_simp⟩) (by assumption) ?_
      try simp only [Act.put, List.setIfInBounds_toArray, List.set_cons_zero, List.set_cons_succ]
      refine wpAnyH_take (i := 14) (oi := ⟨some 34, .fieldAddr 44 (.tmp 33) 2, _, _, _, none⟩) (v := .pointer (some ⟨gl, 33, none⟩)) rfl (by kernel_rfl) (by kernel_rfl) (by kernel_rfl) (fun _ _ _ h => h) (Or.inl ⟨by kernel_rfl, fun w hS => by obtain ⟨h0, h1, h2⟩ := hS; go_simp⟩) (by assumption) ?_
      try simp only [Act.put, List.setIfInBounds_toArray, List.set_cons_zero, List.set_cons_succ]
      refine wpAnyH_take (i := 15) (oi := ⟨some 35, .load 42 (.tmp 34), _, _, _, none⟩) (v := .slice A n c) rfl (by kernel_rfl) (by kernel_rfl) (by kernel_rfl) (fun _ _ _ h => h) (Or.inl ⟨by kernel_rfl, fun w hS => by obtain ⟨h0, h1, h2⟩ := hS; go_simp⟩) (by assumption) ?_
      try simp only [Act.put, List.setIfInBounds_toArray, List.set_cons_zero, List.set_cons_succ]
      refine wpAnyH_take (i := 16) (oi := ⟨some 36, .move (.tmp 2), _, _, _, none⟩) (v := .int .i64 (L : Int)) rfl (by kernel_rfl) (by kernel_rfl) (by kernel_rfl) (fun _ _ _ h => h) (Or.inl ⟨by kernel_rfl, fun w hS => by obtain ⟨h0, h1, h2⟩ := hS; go_simp⟩) (by assumption) ?_
      try simp only [Act.put, List.setIfInBounds_toArray, List.set_cons_zero, List.set_cons_succ]
      refine wpAnyH_ready (rs := [17]) (by kernel_rfl) (by simp) ?_
      refine AllReadyH.cons (o := ⟨some 37, .call { callee := .value (.func 97), args := #[.tmp 35, .tmp 36], argTypes := #[42, 3] }, _, _, _, none⟩) rfl (fun K' hK' => ?_) AllReadyH.nil
      go_simp
      go_wp2_with (go_at_call 97; refine (CUT.out _ SA.out).mono ?_; rintro e w1 ⟨rfl, rfl⟩)
      refine hK'.out _ _ (SOK.out _ SA.out) (fun hHeld => ?_)
      clear hK' K'
      try simp only [Act.put, List.setIfInBounds_toArray, List.set_cons_zero, List.set_cons_succ]
      refine wpAnyH_ready (rs := [18]) (by kernel_rfl) (by simp) ?_
      refine AllReadyH.cons (o := ⟨some 38, .call { callee := .value (.func 87), args := #[.tmp 37], argTypes := #[42] }, _, _, _, none⟩) rfl (fun K' hK' => ?_) AllReadyH.nil
      go_simp
      go_wp2_with (go_at_call 87; refine (CP.out _ SA.out).mono ?_; rintro e w2 ⟨⟨v2, rfl, own2⟩, s2⟩; have S2 := Lib.hid (SA.out.trans s2))
      obtain ⟨A2, c2, rfl, f1, f2, f3⟩ := own_form own2
      have O2 := Lib.hid own2
      have ZA := Lib.hid (show w.heap.size ≤ wa.heap.size from SA.out.size)
      clear own2 f1 f2 f3 s2
      refine hK'.out _ _ (SOK.out _ S2.out) (fun hHeld => ?_)
      clear hK' K'
      try simp only [Act.put, List.setIfInBounds_toArray, List.set_cons_zero, List.set_cons_succ]
      refine wpAnyH_take (i := 19) (oi := ⟨some 39, .build 44 #[(0, .tmp 25), (1, .tmp 30), (2, .tmp 38)], _, _, _, none⟩) (v := .agg (entV t K (.slice A2 m c2))) rfl (by kernel_rfl) (by kernel_rfl) (by kernel_rfl) (fun _ _ _ h => h) ?hb19 (by assumption) ?_
      case hb19 =>
        refine Or.inl ⟨by kernel_rfl, fun W hS => ?_⟩
        exact run_buildE _ _ (.tmp 25) (.tmp 30) (.tmp 38) rfl t K HK.out (.slice A2 m c2) ⟨_, _, _, rfl⟩ (by kernel_rfl) (by kernel_rfl) (by kernel_rfl) W
      try simp only [Act.put, List.setIfInBounds_toArray, List.set_cons_zero, List.set_cons_succ]
      refine wpAnyH_ready (rs := [20]) (by kernel_rfl) (by simp) ?_
      refine AllReadyH.cons (o := ⟨some 40, .buildSlice 75 1 #[(0, .tmp 39)], _, _, _, none⟩) rfl (fun K' hK' => ?_) AllReadyH.nil
      rw [if_pos (by kernel_rfl)]
      with_reducible refine step_boxE w2 (.tmp 39) (by kernel_rfl) t K HK.out (.slice A2 m c2) ⟨_, _, _, rfl⟩ (by kernel_rfl) ?_
      obtain ⟨w3, hw3⟩ : ∃ w3, w3 = w2.alloc (.cells (entV t K (.slice A2 m c2)) 44) := ⟨_, rfl⟩
      obtain ⟨gx, hgx⟩ : ∃ gx, gx = w2.heap.size := ⟨_, rfl⟩
      have S23 := Lib.hid (show Still w2 w3 by rw [hw3]; exact (Still.refl _).alloc (Nat.le_refl _) _)
      have B3 := Lib.hid (show Blk w3 gx 44 (entV t K (.slice A2 m c2)) by rw [hw3, hgx]; exact Blk.new _ _ _)
      have S3 := Lib.hid (Still.trans S2.out S23.out)
      rw [← hw3, ← hgx]
      clear hw3 hgx
      refine hK'.out _ _ (SOK.out _ S3.out) (fun hHeld => ?_)
      clear hK' K'
      try simp only [Act.put, List.setIfInBounds_toArray, List.set_cons_zero, List.set_cons_succ]
      refine wpAnyH_ready (rs := [21]) (by kernel_rfl) (by simp) ?_
      refine AllReadyH.cons (o := ⟨some 41, .call { callee := .builtin .append, args := #[.tmp 20, .tmp 40], argTypes := #[75, 75] }, _, _, _, none⟩) rfl (fun K' hK' => ?_) AllReadyH.nil
      rw [if_pos (by kernel_rfl)]
      have kq1 := World.ownsRow_nil w3 w.heap.size 44 34
      have kq2 : ∀ q u, (entL t K (.slice A2 m c2))[q]? = some u → w3.cell? ⟨gx, q, none⟩ = some u := fun q u hq => (B3.out.cell q).trans (by unfold entV; rw [List.getElem?_toArray]; exact hq)
      have kq3 := entL_len t K (.slice A2 m c2) HK.out
      have kq4 := entL_one t K (.slice A2 m c2) rfl
      have kq5 : w.heap.size ≤ w3.heap.size := S3.out.size
      with_reducible refine step_pushE w3 (.tmp 20) (.tmp 40) (by kernel_rfl) w.heap.size (.slice none 0 0) 0 [] (by kernel_rfl) kq1 gx (entL t K (.slice A2 m c2)) (by kernel_rfl) kq2 kq3 kq4 (by decide) kq5 ?_
      intro v4 w4 own4 gr4 loc4
      have FIN := Lib.hid (show ∃ v', w4.ownsRow w.heap.size 44 34 v4 1 (entL t K v') ∧ w4.ownsRow w.heap.size 5 1 v' m (bytesV (D.take L)) ∧ Still w w4 from by
        have s34 : Still w3 w4 := (Below.refl _ _).grown gr4 (Nat.le_refl _) (fun k hk => by cases hk)
        refine ⟨.slice A2 m c2, by simpa using own4, ?_, Still.trans S3.out s34⟩
        exact own_rebase0 ((O2.out.kept (row := none) (grown_still0 (Still.trans S23.out s34)) (by
          cases h : (Value.slice A2 m c2).ownBlock with
          | none => exact .inl rfl
          | some k => exact .inr (fun e => by cases e)))) ZA.out)
      have SF := Lib.hid (SOK.out w4 (by obtain ⟨_, _, _, h⟩ := FIN.out; exact h))
      clear own4 gr4 loc4 kq1 kq2 kq3 kq4 kq5 B3 S23 O2 S2 S3
      refine hK'.out _ _ SF.out (fun hHeld => ?_)
      clear hK' K'
      try simp only [Act.put, List.setIfInBounds_toArray, List.set_cons_zero, List.set_cons_succ]
      refine wpAnyH_take (i := 22) (oi := ⟨some 7, .assign (.tmp 41), _, _, _, none⟩) (v := v4) rfl (by kernel_rfl) (by kernel_rfl) (by kernel_rfl) (fun _ _ _ h => h) (Or.inl ⟨by kernel_rfl, fun w hS => by go_simp⟩) (by assumption) ?_
      try simp only [Act.put, List.setIfInBounds_toArray, List.set_cons_zero, List.set_cons_succ]
      refine wpAnyH_done (by kernel_rfl) ?_ _
      go_wp2_with fail
      go_roundw
      case rel => exact ⟨1, by omega, by go_num, .inr ⟨rfl, FIN.out⟩⟩
      case measure => simp [intOf]
    · obtain ⟨v', h1, h2, h3⟩ := hin.out
      have O1 := Lib.hid h1
      have O2 := Lib.hid h2
      have S3 := Lib.hid h3
      clear h1 h2 h3 hin
      go_wp2_with fail
      go_ret
      exact ⟨⟨_, v', rfl, O1.out, O2.out⟩, S3.out⟩
end Go.Proofs.YtljacdbdjacbkaaGreatDoor

/- Contracts: a log that no call made. It proves no statement. -/

namespace Go.Proofs.YtljacdbdjacbkaaGreatDoor
open Go.RowKit Go.Maps Go.WideMaps Go.Sort
set_option linter.unusedVariables false
set_option linter.unusedSimpArgs false

/-- A log that no call made: nil, or a struct of noughts. -/
def NoLog (w : World) (P : Value) : Prop := P = .pointer none ∨ ∃ gl, P = .pointer (some ⟨gl, 0, none⟩) ∧ Blk w gl 101 #[.pointer none, .int .i64 0, .slice none 0 0, .int .i64 0, .bool false]
theorem NoLog.still {w w' : World} {P : Value} (h : NoLog w P) (s : Still w w') : NoLog w' P := by
  rcases h with h | ⟨g, h, hb⟩
  · exact .inl h
  · exact .inr ⟨g, h, hb.still s⟩
theorem lworks_no (P : Value) (w : World) (h : NoLog w P) : Calls Tryz.prog 61 #[P] w fun e w' => e = .returned (.bool false) ∧ w = w' := by
  rcases h with rfl | ⟨g, rfl, hb⟩
  · go_enter Tryz.func61, Tryz.ntmps61
    go_wp2_with fail
    go_ret
    exact ⟨rfl, rfl⟩
  · have c0 : w.cell? ⟨g, 0, none⟩ = some (.pointer none) := hb.cell 0
    clear hb
    go_enter Tryz.func61, Tryz.ntmps61
    go_wp2_with fail
    go_ret
    exact ⟨rfl, rfl⟩
theorem lfind_no (P : Value) (n : Int) (w : World) (h : NoLog w P) : Calls Tryz.prog 71 #[P, .int .i64 n] w fun e w' => e = .returned (.tuple #[.int .i64 0, .int .i64 1]) ∧ w = w' := by
  have HW := Lib.hid (lworks_no P w h)
  clear h
  go_enter Tryz.func71, Tryz.ntmps71
  go_wp2_with fail
  refine HW.out.mono ?_
  rintro e w1 ⟨rfl, rfl⟩
  go_wp2_with fail
  go_ret2
  exact ⟨rfl, rfl⟩
theorem lrollback_no (P : Value) (w : World) (h : NoLog w P) : Calls Tryz.prog 19 #[P] w fun e w' => e = .returned (.int .i64 1) ∧ w = w' := by
  have HW := Lib.hid (lworks_no P w h)
  clear h
  go_enter Tryz.func19, Tryz.ntmps19
  go_wp2_with fail
  refine HW.out.mono ?_
  rintro e w1 ⟨rfl, rfl⟩
  go_wp2_with fail
  go_ret
  exact ⟨rfl, rfl⟩
theorem lremove_no (P : Value) (n : Int) (w : World) (h : NoLog w P) : Calls Tryz.prog 21 #[P, .int .i64 n] w fun e w' => e = .returned (.int .i64 1) ∧ w = w' := by
  have HW := Lib.hid (lfind_no P n w h)
  clear h
  go_enter Tryz.func21, Tryz.ntmps21
  go_wp2_with fail
  refine HW.out.mono ?_
  rintro e w1 ⟨rfl, rfl⟩
  go_wp2_with fail
  go_ret
  exact ⟨rfl, rfl⟩
theorem lsync_no (P : Value) (w : World) (h : NoLog w P) : Calls Tryz.prog 23 #[P] w fun e w' => e = .returned (.int .i64 1) ∧ w = w' := by
  have HW := Lib.hid (lworks_no P w h)
  clear h
  go_enter Tryz.func23, Tryz.ntmps23
  go_wp2_with fail
  refine HW.out.mono ?_
  rintro e w1 ⟨rfl, rfl⟩
  go_wp2_with fail
  go_ret
  exact ⟨rfl, rfl⟩
theorem lnext_no (P : Value) (w : World) (h : NoLog w P) : Calls Tryz.prog 55 #[P] w fun e w' => e = .returned (.int .i64 0) ∧ w = w' := by
  have HW := Lib.hid (lworks_no P w h)
  clear h
  go_enter Tryz.func55, Tryz.ntmps55
  go_wp2_with fail
  refine HW.out.mono ?_
  rintro e w1 ⟨rfl, rfl⟩
  go_wp2_with fail
  go_ret
  exact ⟨rfl, rfl⟩
theorem lsegments_no (P : Value) (w : World) (h : NoLog w P) : Calls Tryz.prog 35 #[P] w fun e w' => e = .returned (.slice none 0 0) ∧ w = w' := by
  have HW := Lib.hid (lworks_no P w h)
  clear h
  go_enter Tryz.func35, Tryz.ntmps35
  go_wp2_with fail
  refine HW.out.mono ?_
  rintro e w1 ⟨rfl, rfl⟩
  go_wp2_with fail
  go_ret
  exact ⟨rfl, rfl⟩
theorem lfresh_no (P : Value) (w : World) (h : NoLog w P) : Calls Tryz.prog 44 #[P] w fun e w' => e = .returned (.int .i64 0) ∧ w = w' := by
  have HW := Lib.hid (lworks_no P w h)
  clear h
  go_enter Tryz.func44, Tryz.ntmps44
  go_wp2_with fail
  refine HW.out.mono ?_
  rintro e w1 ⟨rfl, rfl⟩
  go_wp2_with fail
  go_ret
  exact ⟨rfl, rfl⟩
theorem lsize_no (P : Value) (n : Int) (w : World) (h : NoLog w P) : Calls Tryz.prog 38 #[P, .int .i64 n] w fun e w' => e = .returned (.int .i64 0) ∧ w = w' := by
  have HW := Lib.hid (lfind_no P n w h)
  clear h
  go_enter Tryz.func38, Tryz.ntmps38
  go_wp2_with fail
  refine HW.out.mono ?_
  rintro e w1 ⟨rfl, rfl⟩
  go_wp2_with fail
  go_ret
  exact ⟨rfl, rfl⟩
theorem lbytes_no (P : Value) (n : Int) (w : World) (h : NoLog w P) : Calls Tryz.prog 36 #[P, .int .i64 n] w fun e w' => e = .returned (.tuple #[.slice none 0 0, .int .i64 1]) ∧ w = w' := by
  have HW := Lib.hid (lfind_no P n w h)
  clear h
  go_enter Tryz.func36, Tryz.ntmps36
  go_wp2_with fail
  refine HW.out.mono ?_
  rintro e w1 ⟨rfl, rfl⟩
  go_wp2_with fail
  go_ret2
  exact ⟨rfl, rfl⟩
theorem zeroEnt : (Tryz.prog.info? 44).map (fun i => (i.zero, i.size)) = some (some (.agg #[.int .i64 0, .int .u8 0, .int .u8 0, .int .u8 0, .int .u8 0, .int .u8 0, .int .u8 0, .int .u8 0, .int .u8 0, .int .u8 0, .int .u8 0, .int .u8 0, .int .u8 0, .int .u8 0, .int .u8 0, .int .u8 0, .int .u8 0, .int .u8 0, .int .u8 0, .int .u8 0, .int .u8 0, .int .u8 0, .int .u8 0, .int .u8 0, .int .u8 0, .int .u8 0, .int .u8 0, .int .u8 0, .int .u8 0, .int .u8 0, .int .u8 0, .int .u8 0, .int .u8 0, .slice none 0 0]), 34) := by kernel_rfl
set_option maxRecDepth 100000 in
set_option maxHeartbeats 1600000 in
theorem lappend_no (P : Value) (ent : Array Value) (w : World) (h : NoLog w P) : Calls Tryz.prog 15 #[P, .agg ent] w fun e w' => e = .returned (.tuple #[.agg #[.int .i64 0, .int .i64 0, .int .i64 0], .int .i64 1]) ∧ Still w w' := by
  obtain ⟨wA, hwA⟩ : ∃ wA, wA = w.alloc (.cells ent 44) := ⟨_, rfl⟩
  obtain ⟨wB, hwB⟩ : ∃ wB, wB = wA.alloc (.cells #[.int .i64 0, .int .i64 0, .int .i64 0] 39) := ⟨_, rfl⟩
  have SA : Still w wA := by rw [hwA]; exact (Still.refl w).alloc (Nat.le_refl _) _
  have hsA : wA.heap.size = w.heap.size + 1 := by rw [hwA]; simp
  have SB : Still wA wB := by rw [hwB]; exact (Still.refl wA).alloc (Nat.le_refl _) _
  have BP : Blk wB (w.heap.size + 1) 39 #[.int .i64 0, .int .i64 0, .int .i64 0] := by rw [hwB, ← hsA]; exact Blk.new _ _ _
  have SAB := Lib.hid (Still.trans SA SB)
  have WK := Lib.hid (lworks_no P wB (h.still SAB.out))
  have HBP := Lib.hid BP
  have HSA := Lib.hid hsA
  have HWA := Lib.hid hwA
  have HWB := Lib.hid hwB
  have UP := Lib.hid (show Tryz.prog.underlying 39 = some _ from Tryz.underlying39)
  clear h hwA hwB SA SB hsA BP
  go_enter Tryz.func15, Tryz.ntmps15
  go_wp2_with (first
    | (guard_target =~ wpList _ _ _ (Oper.mk (some 3) _ _ _ _ _ :: _) _ _; go_must (refine wpList_box_val rfl 44 (.tmp 1) rfl (some 3) rfl ent rfl ?_); rw [← HWA.out])
    | (guard_target =~ wpList _ _ _ (Oper.mk (some 4) _ _ _ _ _ :: _) _ _; go_must (refine wpList_alloc_arr rfl 39 rfl (some 4) rfl #[.int .i64 0, .int .i64 0, .int .i64 0] 3 zeroPl ?_); rw [← HWB.out, HSA.out])
    | (go_at_call 61; refine WK.out.mono ?_; rintro e w2 ⟨rfl, rfl⟩)
    | (guard_target =~ wpList _ _ _ (Oper.mk none (Op.store _ _ _) _ _ _ _ :: _) _ _; go_must (refine wpList_store_rowTo rfl 39 (.tmp 4) (.tmp 12) rfl rfl (w.heap.size + 1) #[.int .i64 0, .int .i64 0, .int .i64 0] rfl rfl 39 _ HBP.out (sizePl.trans rfl) rfl (by simp [Value.oneCell']) ?_)))
  refine bodyPost_ret (results_cellP rfl _ _ (w.heap.size + 1) 39 _ (0, 0) _ rfl (setRow_heap _ _ _ _ _ _ HBP.out) UP.out rfl (sizePl.trans rfl)) rfl ?_
  exact ⟨rfl, below_setRow SAB.out (by omega) _⟩
set_option maxRecDepth 100000 in
set_option maxHeartbeats 1600000 in
theorem lcommit_no (P : Value) (w : World) (h : NoLog w P) : Calls Tryz.prog 17 #[P] w fun e w' => e = .returned (.tuple #[.int .i64 0, .int .i64 1]) ∧ Still w w' := by
  have AP := Lib.hid (fun ent => lappend_no P ent w h)
  clear h
  go_enter Tryz.func17, Tryz.ntmps17
  go_wp2_with (first
    | (go_at_call 15; refine (AP.out _).mono ?_; rintro e w2 ⟨rfl, s2⟩; have S2 := Lib.hid s2; clear s2)
    | (guard_target =~ wpList _ _ _ (Oper.mk (some 4) (Op.alloc _) _ _ _ _ :: _) _ _; go_must (refine wpList_alloc_arr rfl 39 rfl (some 4) rfl #[.int .i64 0, .int .i64 0, .int .i64 0] 3 zeroPl ?_))
    | (guard_target =~ wpList _ _ _ (Oper.mk none (Op.store _ _ _) _ _ _ _ :: _) _ _; go_must (refine wpList_store_rowTo rfl 39 (.tmp 4) (.tmp 10) rfl rfl w2.heap.size #[.int .i64 0, .int .i64 0, .int .i64 0] rfl rfl 39 _ (Blk.new w2 _ _) (sizePl.trans rfl) rfl (by simp [Value.oneCell']) ?_)))
  go_ret2
  exact ⟨rfl, below_setRow (S2.out.alloc S2.out.size _) S2.out.size _⟩
set_option maxRecDepth 100000 in
set_option maxHeartbeats 1600000 in
theorem lread_no (P : Value) (x y z : Int) (w : World) (h : NoLog w P) : Calls Tryz.prog 29 #[P, .agg #[.int .i64 x, .int .i64 y, .int .i64 z]] w fun e w' => e = .returned (.tuple #[.agg #[.int .i64 0, .int .u8 0, .int .u8 0, .int .u8 0, .int .u8 0, .int .u8 0, .int .u8 0, .int .u8 0, .int .u8 0, .int .u8 0, .int .u8 0, .int .u8 0, .int .u8 0, .int .u8 0, .int .u8 0, .int .u8 0, .int .u8 0, .int .u8 0, .int .u8 0, .int .u8 0, .int .u8 0, .int .u8 0, .int .u8 0, .int .u8 0, .int .u8 0, .int .u8 0, .int .u8 0, .int .u8 0, .int .u8 0, .int .u8 0, .int .u8 0, .int .u8 0, .int .u8 0, .slice none 0 0], .int .i64 1]) ∧ Still w w' := by
  obtain ⟨wA, hwA⟩ : ∃ wA, wA = w.alloc (.cells #[.int .i64 x, .int .i64 y, .int .i64 z] 39) := ⟨_, rfl⟩
  obtain ⟨wB, hwB⟩ : ∃ wB, wB = wA.alloc (.cells #[.int .i64 0, .int .u8 0, .int .u8 0, .int .u8 0, .int .u8 0, .int .u8 0, .int .u8 0, .int .u8 0, .int .u8 0, .int .u8 0, .int .u8 0, .int .u8 0, .int .u8 0, .int .u8 0, .int .u8 0, .int .u8 0, .int .u8 0, .int .u8 0, .int .u8 0, .int .u8 0, .int .u8 0, .int .u8 0, .int .u8 0, .int .u8 0, .int .u8 0, .int .u8 0, .int .u8 0, .int .u8 0, .int .u8 0, .int .u8 0, .int .u8 0, .int .u8 0, .int .u8 0, .slice none 0 0] 44) := ⟨_, rfl⟩
  have SA : Still w wA := by rw [hwA]; exact (Still.refl w).alloc (Nat.le_refl _) _
  have hsA : wA.heap.size = w.heap.size + 1 := by rw [hwA]; simp
  have SB : Still wA wB := by rw [hwB]; exact (Still.refl wA).alloc (Nat.le_refl _) _
  have BA : Blk wA w.heap.size 39 #[.int .i64 x, .int .i64 y, .int .i64 z] := by rw [hwA]; exact Blk.new _ _ _
  have BP : Blk wB (w.heap.size + 1) 44 #[.int .i64 0, .int .u8 0, .int .u8 0, .int .u8 0, .int .u8 0, .int .u8 0, .int .u8 0, .int .u8 0, .int .u8 0, .int .u8 0, .int .u8 0, .int .u8 0, .int .u8 0, .int .u8 0, .int .u8 0, .int .u8 0, .int .u8 0, .int .u8 0, .int .u8 0, .int .u8 0, .int .u8 0, .int .u8 0, .int .u8 0, .int .u8 0, .int .u8 0, .int .u8 0, .int .u8 0, .int .u8 0, .int .u8 0, .int .u8 0, .int .u8 0, .int .u8 0, .int .u8 0, .slice none 0 0] := by rw [hwB, ← hsA]; exact Blk.new _ _ _
  have k0 := (BA.still SB).cell 0
  have SAB := Lib.hid (Still.trans SA SB)
  have WK := Lib.hid (fun n => lfind_no P n wB (h.still SAB.out))
  have HBP := Lib.hid BP
  have HSA := Lib.hid hsA
  have HWA := Lib.hid hwA
  have HWB := Lib.hid hwB
  obtain ⟨fs, hu⟩ := underEnt
  have HU := Lib.hid hu
  clear h hwA hwB SA SB hsA BP BA hu
  go_enter Tryz.func29, Tryz.ntmps29
  go_wp2_with (first
    | (guard_target =~ wpList _ _ _ (Oper.mk (some 3) _ _ _ _ _ :: _) _ _; go_must (refine wpList_box_val rfl 39 (.tmp 1) rfl (some 3) rfl #[.int .i64 x, .int .i64 y, .int .i64 z] rfl ?_); rw [← HWA.out])
    | (guard_target =~ wpList _ _ _ (Oper.mk (some 4) _ _ _ _ _ :: _) _ _; go_must (refine wpList_alloc_arr rfl 44 rfl (some 4) rfl #[.int .i64 0, .int .u8 0, .int .u8 0, .int .u8 0, .int .u8 0, .int .u8 0, .int .u8 0, .int .u8 0, .int .u8 0, .int .u8 0, .int .u8 0, .int .u8 0, .int .u8 0, .int .u8 0, .int .u8 0, .int .u8 0, .int .u8 0, .int .u8 0, .int .u8 0, .int .u8 0, .int .u8 0, .int .u8 0, .int .u8 0, .int .u8 0, .int .u8 0, .int .u8 0, .int .u8 0, .int .u8 0, .int .u8 0, .int .u8 0, .int .u8 0, .int .u8 0, .int .u8 0, .slice none 0 0] 34 zeroEnt ?_); rw [← HWB.out, HSA.out])
    | (go_at_call 71; refine (WK.out _).mono ?_; rintro e w2 ⟨rfl, rfl⟩)
    | (guard_target =~ wpList _ _ _ (Oper.mk none (Op.store _ _ _) _ _ _ _ :: _) _ _; go_must (refine wpList_store_rowTo rfl 44 (.tmp 4) (.tmp 37) rfl rfl (w.heap.size + 1) #[.int .i64 0, .int .u8 0, .int .u8 0, .int .u8 0, .int .u8 0, .int .u8 0, .int .u8 0, .int .u8 0, .int .u8 0, .int .u8 0, .int .u8 0, .int .u8 0, .int .u8 0, .int .u8 0, .int .u8 0, .int .u8 0, .int .u8 0, .int .u8 0, .int .u8 0, .int .u8 0, .int .u8 0, .int .u8 0, .int .u8 0, .int .u8 0, .int .u8 0, .int .u8 0, .int .u8 0, .int .u8 0, .int .u8 0, .int .u8 0, .int .u8 0, .int .u8 0, .int .u8 0, .slice none 0 0] rfl rfl 44 _ HBP.out (sizeEnt0.trans rfl) rfl (by simp [Value.oneCell']) ?_)))
  refine bodyPost_ret (results_cellP rfl _ _ (w.heap.size + 1) 44 _ (0, 0) _ rfl (setRow_heap _ _ _ _ _ _ HBP.out) HU.out rfl (sizeEnt0.trans rfl)) rfl ?_
  exact ⟨rfl, below_setRow SAB.out (by omega) _⟩
/-- The medium's own nil. -/
theorem msize_nil (s : ByteArray) (w : World) : Calls Tryz.prog 58 #[.pointer none, .string s] w fun e w' => e = .returned (.tuple #[.int .i64 0, .int .i64 1]) ∧ w = w' := by
  have HW : Calls Tryz.prog 77 #[.pointer none] w fun e w' => e = .returned (.int .i64 1) ∧ w = w' := by
    go_enter Tryz.func77, Tryz.ntmps77
    go_wp2
    go_ret
    exact ⟨rfl, rfl⟩
  have HW := Lib.hid HW
  have HF : Calls Tryz.prog 103 #[.pointer none, .string s] w fun e w' => e = .returned (.tuple #[.pointer none, .int .i64 1]) ∧ w = w' := by
    go_enter Tryz.func103, Tryz.ntmps103
    go_wp2_with fail
    refine HW.out.mono ?_
    rintro e w1 ⟨rfl, rfl⟩
    go_wp2_with fail
    go_ret2
    exact ⟨rfl, rfl⟩
  have HF := Lib.hid HF
  clear HW
  go_enter Tryz.func58, Tryz.ntmps58
  go_wp2_with fail
  refine HF.out.mono ?_
  rintro e w1 ⟨rfl, rfl⟩
  go_wp2_with fail
  go_ret2
  exact ⟨rfl, rfl⟩
theorem open_nil (limit : Int) (w : World) : Calls Tryz.prog 13 #[.pointer none, .int .i64 limit] w fun e w' => e = .returned (.tuple #[.pointer none, .int .i64 1]) ∧ w = w' := by
  have HF := Lib.hid (msize_nil ⟨#[]⟩ w)
  go_enter Tryz.func13, Tryz.ntmps13
  go_wp2_with fail
  refine HF.out.mono ?_
  rintro e w1 ⟨rfl, rfl⟩
  go_wp2_with fail
  go_ret2
  exact ⟨rfl, rfl⟩
end Go.Proofs.YtljacdbdjacbkaaGreatDoor
