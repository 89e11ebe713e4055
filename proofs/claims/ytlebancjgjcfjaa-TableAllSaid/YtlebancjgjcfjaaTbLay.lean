/- Contracts: a key laid, a new table, what stands under a key. It proves no statement. -/
import Derived.Test.YtlebancjgjcfjaaTbFind
import Derived.Test.YtlebancjgjcfjaaQuiet2
import Derived.Test.YtlebancjgjcfjaaList32
namespace Go.Proofs.Ytlebancjgjcfjaa
open Go.RowKit
set_option linter.unusedVariables false
set_option linter.unusedSimpArgs false

set_option maxRecDepth 100000 in
theorem built_full (K : List UInt8) (hK : K.length = 32) (x : Int) : Try.prog.built 82 [(0, .int .i64 2), (1, .agg (bytesV K).toArray), (2, .int .i64 x)] = some (slL 1 (.full K [x])).toArray := by
  obtain ⟨k0, k1, k2, k3, k4, k5, k6, k7, k8, k9, k10, k11, k12, k13, k14, k15, k16, k17, k18, k19, k20, k21, k22, k23, k24, k25, k26, k27, k28, k29, k30, k31, rfl⟩ := list32 K hK
  kernel_rfl
set_option maxRecDepth 100000 in
theorem built_dead : Try.prog.built 82 [(0, .int .i64 1)] = some (slL 1 .dead).toArray := by kernel_rfl
theorem sizeSlot : (Try.prog.info? 82).map (·.size) = some 34 := by kernel_rfl
abbrev TT : TypeId := 64
/-- Behind lay. -/
theorem TB.laid {T : TypeId} {m : Nat} {w : World} {g b c : Nat} {S : List Sl} {p : Nat} {s x : Sl} (h : TB T m w g b c S) (hp : S[p]? = some s) (hx : SlOK m x) (hI : Inv m (S.set p x)) (hk : keysN (S.set p x) = keysN S + 1) (hd : deadN (S.set p x) = deadN S) :
    TB T m ((w.setCells b (p * (33 + m)) (slL m x)).setCell ⟨g, 1, none⟩ (.int .i64 (keysN S + 1 : Nat))) g b c (S.set p x) := by
  have c1 := Chg.of_grown (grown_setC (g := b) (slL m x) (p * (33 + m)) w) (S := fun k => k = b) (fun k hk _ => (Option.some.inj hk).symm)
  have b1 := c1.blk h.box (fun e => h.ne e.symm)
  have r1 := h.row.set (fun i s hi => h.inv.slOK hi) hp hx
  refine ⟨?_, ?_, hI, h.ne, by simpa using h.cap⟩
  · have := b1.setc 1 (.int .i64 (keysN S + 1 : Nat))
    rw [hk, hd, List.length_set]
    exact this
  · exact r1.keep ((grownBy_set _ g 1 _).block b r1.lt (fun e => h.ne (Option.some.inj e)))
set_option maxRecDepth 100000 in
set_option maxHeartbeats 3200000 in
theorem lay_any {w : World} {g b c : Nat} {S : List Sl} (h : TB TT 1 w g b c S) (k : List UInt8) (x : Int) (hk : k.length = 32) (hS : S.length ≤ 1099511627776) (j : Nat) (hj : Stop S k j) (hp : S[pos k S.length j]? = some Sl.empty) (hl : 4 * (keysN S + 1 + deadN S) ≤ 3 * S.length) :
    Calls Try.prog 35 #[.pointer (some ⟨g, 0, none⟩), .agg (bytesV k).toArray, .int .i64 x] w fun e w' => e = .returned (.tuple #[]) ∧ TB TT 1 w' g b c (S.set (pos k S.length j) (.full k [x])) ∧ Chg w w' (fun q => q = g ∨ q = b) := by
  obtain ⟨wA, hwA⟩ : ∃ wA, wA = w.alloc (.cells (bytesV k).toArray 43) := ⟨_, rfl⟩
  obtain ⟨gk, hg⟩ : ∃ gk, gk = w.heap.size := ⟨_, rfl⟩
  have SA : Still w wA := by rw [hwA]; exact (Still.refl w).alloc (Nat.le_refl _) _
  have r1 := box_key w k
  rw [← hwA, ← hg] at r1
  have hA := h.still SA
  have h8 := h.len8
  have SE := Lib.hid (search_any hA k hk hS j hj)
  have d0 := pos_lt k (n := S.length) j (by omega)
  have xok : SlOK 1 (.full k [x]) := ⟨hk, rfl⟩
  obtain ⟨I, K1, D1, _⟩ := h.inv.more hj hp hk (v := [x]) rfl hl
  have KB : keysN S ≤ S.length := by have := h.inv.load; omega
  have TAIL := Lib.hid (fun W (s : Still wA W) => (hA.still s).laid hp xok I K1 D1)
  have TH := Lib.hid (fun W (s : Still wA W) => (hA.still s).row.there hp (SlOK.empty 1))
  have K0 := Lib.hid (fun W (s : Still wA W) => (hA.still s).c0)
  have CH := Lib.hid (fun W (s : Still wA W) => show Blk (W.setCells b (pos k S.length j * (33 + 1)) (slL 1 (.full k [x]))) g TT _ ∧ Chg w ((W.setCells b (pos k S.length j * (33 + 1)) (slL 1 (.full k [x]))).setCell ⟨g, 1, none⟩ (.int .i64 (keysN S + 1 : Nat))) (fun q => q = g ∨ q = b) from by
    have c1 := Chg.of_grown (grown_setC (g := b) (slL 1 (.full k [x])) (pos k S.length j * (33 + 1)) W) (S := fun q => q = g ∨ q = b) (fun k hk _ => .inr (Option.some.inj hk).symm)
    refine ⟨(Chg.of_grown (grown_setC (g := b) (slL 1 (.full k [x])) (pos k S.length j * (33 + 1)) W) (S := fun q => q = b) (fun k hk _ => (Option.some.inj hk).symm)).blk (hA.still s).box (fun e => h.ne e.symm), ?_⟩
    exact ((Chg.of_still (Still.trans SA s) _).trans c1 (fun _ _ h => h)).trans (Chg.of_grown (grownBy_set _ g 1 _) (S := fun q => q = g ∨ q = b) (fun k hk _ => .inl (Option.some.inj hk).symm)) (fun _ _ h => h))
  have BF := Lib.hid (built_full k hk x)
  have H32 := Lib.hid (show (Try.prog.info? 43).map (·.size) = some (bytesV k).length from by rw [size32, bytesV_length, hk])
  have RB := Lib.hid r1
  have GL := Lib.hid (show gk < wA.heap.size from by rw [hwA, hg]; simp)
  have HWA := Lib.hid hwA
  have HG := Lib.hid hg
  have HSL := Lib.hid (show (slL 1 (.full k [x])).length = 34 from slL_len xok)
  obtain ⟨kv, hkv⟩ : ∃ kv, kv = (bytesV k).toArray := ⟨_, rfl⟩
  rw [← hkv] at HWA SE BF ⊢
  have KV := Lib.hid hkv
  obtain ⟨sl, hsl⟩ : ∃ sl, sl = slL 1 (.full k [x]) := ⟨_, rfl⟩
  have H1 := Lib.hid (show sl.toArray.all (·.oneCell') = true from by rw [hsl]; exact all_oneCell_toArray (fun v hv => slL_one _ _ v hv))
  rw [← hsl] at TAIL CH BF HSL
  obtain ⟨y, hy⟩ : ∃ y, y = pos k S.length j := ⟨_, rfl⟩
  rw [← hy] at SE TAIL TH CH d0 ⊢
  obtain ⟨n, hn⟩ : ∃ n, n = S.length := ⟨_, rfl⟩
  rw [← hn] at h8 hS K0 KB d0
  obtain ⟨kn, hkn⟩ : ∃ kn, kn = keysN S := ⟨_, rfl⟩
  have KN := Lib.hid hkn
  rw [← hkn] at KB TAIL CH
  have d1 : (y : Int) < (n : Int) := by omega
  have d3 : (kn : Int) ≤ 1099511627776 := by omega
  clear hwA hg SA r1 h hkv hA hn hk hj hy hp hl I K1 D1 xok hsl hkn
  go_enter Try.func35, Try.ntmps35
  go_upto_region 1 with (guard_target =~ wpList _ _ _ (Oper.mk (some 4) _ _ _ _ _ :: _) _ _; go_must (refine wpList_box_val rfl 43 (.tmp 1) rfl (some 4) rfl kv rfl ?_))
  rw [← HWA.out, ← HG.out]
  go_upto_region 2 with (first
    | (guard_target =~ wpList _ _ _ (Oper.mk (some 10) _ _ _ _ _ :: _) _ _; go_must (refine wpList_load_mid rfl 43 (.tmp 4) rfl gk 0 rfl (bytesV k) _ RB.out under32 rfl H32.out ?_); rw [← KV.out])
    | (go_at_call 41; refine SE.out.mono ?_; rintro e w1 ⟨rfl, s1⟩; have S1 := Lib.hid s1; clear s1))
  have k0 : w1.drew.cell? ⟨g, 0, none⟩ = some (.slice (some ⟨b, 0, none⟩) n c) := K0.out _ S1.out.drew
  have S2 := Lib.hid (show Still wA w1.drew from S1.out.drew)
  have RB2 := Lib.hid (show w1.drew.rangeAt gk 0 (bytesV k) from fun q u hq => (S1.out.drew.cell (p := ⟨gk, 0 + q, none⟩) GL.out).trans (RB.out q u hq))
  refine wp_region_still_tail 9 (by kernel_rfl) (by kernel_rfl) ?_
  simp only [List.take_succ_cons, List.take_zero, List.drop_succ_cons, List.drop_zero]
  change wpStill _ _ w1.drew _ _ _
  repeat (first
    | (guard_target =~ wpStill _ _ _ _ (Oper.mk (some 19) _ _ _ _ _ :: _) _; go_must (refine still_load_mid (by kernel_rfl) 43 (.tmp 4) rfl gk 0 (by kernel_rfl) (bytesV k) _ RB2.out under32 rfl H32.out ?_); rw [← KV.out])
    | (guard_target =~ wpStill _ _ _ _ (Oper.mk (some 21) _ _ _ _ _ :: _) _; go_must (refine still_build (by kernel_rfl) 82 _ rfl sl.toArray (by simp only [List.map_toArray, List.map_cons, List.map_nil]; exact BF.out) ?_))
    | still_step)
  refine wpStill_nil ?_
  change wpList _ _ _ _ _ w1.drew
  refine wpList_store_mid rfl 82 (.tmp 22) (.tmp 21) rfl b (y * 34) sl.toArray rfl rfl (by rw [List.size_toArray, HSL.out]; exact TH.out _ S2.out) (by rw [sizeSlot, List.size_toArray, HSL.out]) H1.out ?_
  refine wpList_nil ?_
  rw [show sl.toArray.toList = sl from rfl]
  obtain ⟨B3, C3⟩ := CH.out _ S2.out
  have T3 := Lib.hid (TAIL.out _ S2.out)
  have C3 := Lib.hid C3
  change Blk (w1.drew.setCells b (y * 34) sl) _ _ _ at B3
  change Hid (TB TT 1 ((w1.drew.setCells b (y * 34) sl).setCell ⟨g, 1, none⟩ (.int .i64 (kn + 1 : Nat))) _ _ _ _) at T3
  change Hid (Chg w ((w1.drew.setCells b (y * 34) sl).setCell ⟨g, 1, none⟩ (.int .i64 (kn + 1 : Nat))) _) at C3
  obtain ⟨w3, hw3⟩ : ∃ w3, w3 = w1.drew.setCells b (y * 34) sl := ⟨_, rfl⟩
  rw [← hw3] at B3 T3 C3 ⊢
  have q1 : w3.cell? ⟨g, 1, none⟩ = some (.int .i64 (kn : Nat)) := B3.cell 1
  have f1 : w3.frozen? ⟨g, 1, none⟩ = false := B3.frozen 1
  clear hw3 B3 k0
  go_wp2_with fail
  go_end0
  exact ⟨rfl, T3.out, C3.out⟩
theorem Try.infoSlot : (Try.prog.info? 82).map (fun i => (i.zero, i.size, i.bytes)) = some (some (.agg (slL 1 .empty).toArray), 34, 48) := by kernel_rfl
theorem made_cell (z : Array Value) (n q : Nat) (hz : 0 < z.size) (hq : q < n) : (madeCells z n)[q]? = z[q % z.size]? := by
  have h1 : ¬ n = 0 := by omega
  have h2 : q % z.size < z.size := Nat.mod_lt _ hz
  unfold madeCells
  simp [h1, hq, h2]
theorem SlB.made (w : World) (t : TypeId) (m n : Nat) : SlB (w.alloc (.cells (madeCells (slL m .empty).toArray (n * (33 + m))) t)) w.heap.size m (List.replicate n .empty) := by
  have hl : (slL m .empty).length = 33 + m := slL_len (SlOK.empty m)
  refine ⟨fun i s hi j v hj => ?_, fun q => (Blk.new w t _).frozen q, by simp⟩
  have hin : i < n := by have := (List.getElem?_eq_some_iff.1 hi).1; simpa using this
  have hs := rep_get hi
  subst hs
  have hj2 : j < 33 + m := by have := (List.getElem?_eq_some_iff.1 hj).1; rwa [hl] at this
  have hlt : i * (33 + m) + j < n * (33 + m) := by
    have : (i + 1) * (33 + m) ≤ n * (33 + m) := Nat.mul_le_mul_right _ hin
    rw [Nat.add_mul, Nat.one_mul] at this; omega
  rw [(Blk.new w t _).cell, made_cell _ _ _ (by rw [List.size_toArray, hl]; omega) hlt, List.size_toArray, hl, show (i * (33 + m) + j) % (33 + m) = j from by rw [Nat.mul_comm, Nat.mul_add_mod, Nat.mod_eq_of_lt hj2], List.getElem?_toArray, hj]
theorem run_made (n : Nat) (hn : n ≤ 1099511627776) (w : World) : (Instr.makeSlice 62 (.int .i64 (n : Int)) (.int .i64 (n : Int))).run Try.prog w = .ok (.slice (some ⟨w.heap.size, 0, none⟩) n n) (w.alloc (.cells (madeCells (slL 1 .empty).toArray (n * 34)) 82)) := by
  obtain ⟨i0, hi, hz0, hz1, hz2⟩ := info_parts Try.infoSlot
  have h := run_make (P := Try.prog) w 62 82 i0 _ Try.underlying62 hi hz0 .i64 .i64 n n (by omega) (Int.le_refl _) (by rw [hz2]; omega) (by omega)
  simp only [Int.toNat_natCast] at h
  rw [hz1] at h
  exact h
theorem built_table (A : Option Addr) (n c : Nat) : Try.prog.built 64 [(0, .slice A n c)] = some #[.slice A n c, .int .i64 0, .int .i64 0] := by kernel_rfl
set_option maxRecDepth 100000 in
theorem new_any (w : World) : Calls Try.prog 17 #[] w fun e w' => ∃ g b, e = .returned (.pointer (some ⟨g, 0, none⟩)) ∧ TB TT 1 w' g b 8 (List.replicate 8 .empty) ∧ Still w w' ∧ w.heap.size ≤ g ∧ w.heap.size ≤ b := by
  have hm := run_made 8 (by omega) w
  obtain ⟨wA, hwA⟩ : ∃ wA, wA = w.alloc (.cells (madeCells (slL 1 .empty).toArray (8 * 34)) 82) := ⟨_, rfl⟩
  have R := SlB.made w 82 1 8
  rw [show 8 * (33 + 1) = 8 * 34 from rfl, ← hwA] at R
  have SA : Still w wA := by rw [hwA]; exact (Still.refl w).alloc (Nat.le_refl _) _
  have zA : wA.heap.size = w.heap.size + 1 := by rw [hwA]; simp
  rw [← hwA] at hm
  have FIN := Lib.hid (show ∃ g b, Ending.returned (.pointer (some ⟨wA.heap.size, 0, none⟩)) = Ending.returned (.pointer (some ⟨g, 0, none⟩)) ∧ TB TT 1 (wA.alloc (.cells #[.slice (some ⟨w.heap.size, 0, none⟩) 8 8, .int .i64 0, .int .i64 0] TT)) g b 8 (List.replicate 8 .empty) ∧ Still w (wA.alloc (.cells #[.slice (some ⟨w.heap.size, 0, none⟩) 8 8, .int .i64 0, .int .i64 0] TT)) ∧ w.heap.size ≤ g ∧ w.heap.size ≤ b from
    ⟨wA.heap.size, w.heap.size, rfl, ⟨by have := Blk.new wA TT #[.slice (some ⟨w.heap.size, 0, none⟩) 8 8, .int .i64 0, .int .i64 0]; rw [keysN_rep, deadN_rep]; exact this, R.still ((Still.refl wA).alloc (Nat.le_refl _) _), Inv.rep 1 0, by omega, by simp⟩, Still.trans SA ((Still.refl wA).alloc (Nat.le_refl _) _), by omega, by omega⟩)
  have BT := Lib.hid (built_table (some ⟨w.heap.size, 0, none⟩) 8 8)
  have HM := Lib.hid hm
  clear hm R SA zA hwA
  go_enter Try.func17, Try.ntmps17
  go_upto_region 1 with fail
  refine wp_region_lit ?_
  refine Go.Great.wpList_runTo rfl (some 1) rfl (.slice (some ⟨w.heap.size, 0, none⟩) 8 8) wA ?_ ?_
  · unfold execOp
    have h := HM.out
    simp only [Sem.run_bind]
    first
      | (rw [show (Instr.makeSlice 62 (Act.eval { tmps := #[Value.pointer none, undef, undef, undef], defers := [] } (Operand.const (Value.int IntKind.i64 8))) (Act.eval { tmps := #[Value.pointer none, undef, undef, undef], defers := [] } (Operand.const (Value.int IntKind.i64 8)))) = Instr.makeSlice 62 (.int .i64 ((8 : Nat) : Int)) (.int .i64 ((8 : Nat) : Int)) from rfl, h]; rfl)
      | trace_state
  refine wpList_buildTo rfl 64 _ rfl (some 2) rfl #[.slice (some ⟨w.heap.size, 0, none⟩) 8 8, .int .i64 0, .int .i64 0] (by simp only [List.map_toArray, List.map_cons, List.map_nil]; exact BT.out) ?_
  refine wpList_box_val rfl 64 (.tmp 2) rfl (some 3) rfl #[.slice (some ⟨w.heap.size, 0, none⟩) 8 8, .int .i64 0, .int .i64 0] rfl ?_
  go_wp2_with fail
  go_ret
  exact FIN.out
end Go.Proofs.Ytlebancjgjcfjaa
