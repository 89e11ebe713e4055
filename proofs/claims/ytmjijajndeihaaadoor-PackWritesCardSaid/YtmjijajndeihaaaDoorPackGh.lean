/- Contracts and facts, several texts in one. It proves no statement. -/
import Derived.Test.YtmjijajndeihaaaDoorPackGg
import Derived.Test.YtmjijajndeihaaaDoorPackGe
import Derived.Test.YtmjijajndeihaaaDoorPackGa
import Derived.Lib.AppendStr

/- The document's own: a value's bytes; the kinds without rows of values. It proves no statement. -/





namespace Go.Proofs.YtmjijajndeihaaaDoor
open Go.RowKit
set_option linter.unusedVariables false
set_option linter.unusedSimpArgs false

/-- What is said of the document's own 'bytes'. -/
def RBOK (x : Tr) : Prop := ∀ (d : Nat) (w : World) (B base n : Nat) (v : Value) (l : List UInt8) (cs : Array Value), canT d x = true → HasV w B x cs → B ≤ base → base ≤ w.heap.size → w.ownsRow base 5 1 v n (bytesV l) → l.length = n → n ≤ 65536 →
  Calls Tryd.prog 20 #[v, .agg cs] w fun e w' => (∃ v', e = .returned (.tuple #[v', .bool (decide ((l ++ encT x).length ≤ 65536))]) ∧ ((l ++ encT x).length ≤ 65536 → w'.ownsRow base 5 1 v' (l ++ encT x).length (bytesV (l ++ encT x)) ∧ ∀ b, v'.ownBlock = some b → v.ownBlock = some b ∨ w.heap.size ≤ b)) ∧ w.grownBy w' v.ownBlock
theorem grown_own {w w2 w4 : World} {r s : Option Nat} (h : w.grownBy w2 r) (g : w2.grownBy w4 s) (hs : ∀ b, s = some b → r = some b ∨ w.heap.size ≤ b) : w.grownBy w4 r :=
  ⟨g.os.trans h.os, g.tape.trans h.tape, g.output.trans h.output, Nat.le_trans h.size g.size, fun k hk hne => (g.block k (by have := h.size; omega) (fun e => by
    rcases hs k e.symm with q | q
    · exact hne q.symm
    · omega)).trans (h.block k hk hne)⟩
theorem blk_grown {w w' : World} {g : Nat} {t : TypeId} {cs : Array Value} {r : Option Nat} (b : Blk w g t cs) (gr : w.grownBy w' r) (h : r ≠ some g) : Blk w' g t cs := (gr.block g b.lt (fun e => h e.symm)).trans b

set_option maxRecDepth 100000 in
set_option maxHeartbeats 3200000 in
theorem rb_k0 (i : Int) (b : List UInt8) (t : ByteArray) (ks : List ByteArray) (lx : List Tr) : RBOK (.mk 0 i b t ks lx) := by
  intro d w B base n v l cs hcan hv hB hbase own hl hn
  unfold HasV at hv
  obtain ⟨A0, n0, c0, Ak, ck, Al, cl, rfl, hkb, hib, ⟨hr, hn0, hA0⟩, ht, ⟨hks, hkl⟩, hll, hL⟩ := hv
  obtain ⟨A, c, rfl, f1, f2, f3⟩ := own_form own
  obtain ⟨wA, hA⟩ : ∃ wA, wA = w.alloc (.cells #[.int .i64 0, .int .i64 i, .slice A0 n0 c0, .string t, .slice Ak ks.length ck, .slice Al lx.length cl] 26) := ⟨_, rfl⟩
  have sA : Still w wA := by rw [hA]; exact (Still.refl w).alloc (Nat.le_refl _) _
  have bA : Blk wA w.heap.size 26 #[.int .i64 0, .int .i64 i, .slice A0 n0 c0, .string t, .slice Ak ks.length ck, .slice Al lx.length cl] := by rw [hA]; exact Blk.new _ _ _
  have OWA := Lib.hid (own_still own sA)
  have NG := Lib.hid (show (Value.slice A n c).ownBlock ≠ some w.heap.size from fun e => by have := (own.lt _ e).2; omega)
  have LOW := Lib.hid (show ∀ b, (Value.slice A n c).ownBlock = some b → base ≤ b from fun b e => (own.lt b e).1)
  have HA := Lib.hid hA
  have SA := Lib.hid sA
  have BA := Lib.hid bA
  have HBW := Lib.hid hB
  have HBASE := Lib.hid hbase
  have HLN := Lib.hid hl
  have HN := Lib.hid hn
  have HT := Lib.hid ht
  have HN0 := Lib.hid hn0
  have HR := Lib.hid hr
  have HA0 := Lib.hid hA0
  obtain ⟨gb, hgb⟩ : ∃ gb, gb = w.heap.size := ⟨_, rfl⟩
  have HGB := Lib.hid hgb
  rw [← hgb] at BA NG
  obtain ⟨m, hm⟩ : ∃ m, m = lx.length := ⟨_, rfl⟩
  have HM := Lib.hid hm
  rw [← hm] at BA HA ⊢
  clear hA sA bA hB hbase own hl hn ht hn0 hr hA0 hgb hm hcan hkb hib hks hkl hll hL f1 f2 f3
  have EL := Lib.hid (show (encT (.mk 0 i b t ks lx)).length = 1 by unfold encT; simp)
  have EE := Lib.hid (show encT (.mk 0 i b t ks lx) = [UInt8.ofNat 192] by unfold encT; simp)
  obtain ⟨E, hE⟩ : ∃ E, E = encT (.mk 0 i b t ks lx) := ⟨_, rfl⟩
  rw [← hE] at EL EE ⊢
  clear hE
  go_enter Tryd.func20, Tryd.ntmps20
  go_upto_region 1 with fail
  rw [show (w.alloc (.cells #[.int .i64 0, .int .i64 i, .slice A0 n0 c0, .string t, .slice Ak ks.length ck, .slice Al m cl] 26)) = wA from HA.out.symm, ← HGB.out]
  have k0 : wA.cell? ⟨gb, 0, none⟩ = some (.int .i64 0) := BA.out.cell 0
  have k1 : wA.cell? ⟨gb, 1, none⟩ = some (.int .i64 i) := BA.out.cell 1
  have k2 : wA.cell? ⟨gb, 2, none⟩ = some (.slice A0 n0 c0) := BA.out.cell 2
  have k3 : wA.cell? ⟨gb, 3, none⟩ = some (.string t) := BA.out.cell 3
  have k5 : wA.cell? ⟨gb, 5, none⟩ = some (.slice Al m cl) := BA.out.cell 5
  go_upto_region 17 with fail
  obtain ⟨w1, hw1⟩ : ∃ w1, w1 = wA.alloc (.cells #[.int .u8 ((192 : Nat) : Int)] 5) := ⟨_, rfl⟩
  have S1 := Lib.hid (show Still wA w1 by rw [hw1]; exact (Still.refl wA).alloc (Nat.le_refl _) _)
  have RD := Lib.hid (show Reads w1 w1.heap.size (some ⟨wA.heap.size, 0, none⟩) 1 [UInt8.ofNat 192] by rw [hw1]; exact Reads.of_own (own_tag wA 192 (by omega)))
  have NA := Lib.hid (show some (⟨wA.heap.size, 0, none⟩ : Addr) = none → 1 = 0 from fun e => by cases e)
  rw [show (wA.alloc (.cells #[.int .u8 192] 5)) = w1 from hw1.symm]
  have LB := Lib.hid (show 1 ≤ 65536 by omega)
  clear hw1
  have OW1 := Lib.hid (own_still OWA.out S1.out)
  have B1 := Lib.hid (BA.out.still S1.out)
  have BEL1 := Lib.hid (show w.grownBy w1 (Value.slice A n c).ownBlock from grown_of_still (Still.trans SA.out S1.out))
  have Z1 := Lib.hid (show base ≤ w1.heap.size from Nat.le_trans HBASE.out (Still.trans SA.out S1.out).size)
  clear k0 k1 k2 k3 k5
  go_wp2_with (at_builtin; go_must (refine wpList_adds_at w1 rfl (.tmp 49) (.tmp 50) rfl base (.slice A n c) n l (by kernel_rfl) OW1.out (some ⟨wA.heap.size, 0, none⟩) 1 1 w1.heap.size [UInt8.ofNat 192] (by kernel_rfl) RD.out NA.out (by have := HN.out; have := LB.out; omega) Z1.out ?_))
  intro v2 w2 own2 gr2 loc2
  obtain ⟨A3, c3, rfl, q1, q2, q3⟩ := own_form own2
  clear q1 q2 q3
  obtain ⟨N2, hN2⟩ : ∃ N2, N2 = n + 1 := ⟨_, rfl⟩
  rw [← hN2] at own2 loc2 ⊢
  have HN2 := Lib.hid hN2
  clear hN2
  have OW2 := Lib.hid own2
  have B2 := Lib.hid (blk_grown B1.out gr2 NG.out)
  have BEL2 := Lib.hid (show w.grownBy w2 (Value.slice A n c).ownBlock from grown_trans BEL1.out gr2)
  have Z2 := Lib.hid (show base ≤ w2.heap.size from Nat.le_trans Z1.out gr2.size)
  have NG2 := Lib.hid (show (Value.slice A3 N2 c3).ownBlock ≠ some gb from fun e => by
    rcases loc2 with h | h
    · rw [h] at e; exact NG.out e
    · rw [h] at e; have := Option.some.inj e; have := B1.out.lt; omega)
  have LOC2 := Lib.hid (show ∀ b, (Value.slice A3 N2 c3).ownBlock = some b → (Value.slice A n c).ownBlock = some b ∨ w.heap.size ≤ b from fun b e => by
    rcases loc2 with h | h
    · rw [h] at e; exact .inl e
    · rw [h] at e; have := Option.some.inj e; have := (Still.trans SA.out S1.out).size; right; omega)
  have LOW2 := Lib.hid (show ∀ b, (Value.slice A3 N2 c3).ownBlock = some b → base ≤ b from fun b e => (OW2.out.lt b e).1)
  clear own2 gr2 loc2 OW1 B1 BEL1 RD NA
  have k0 : w2.cell? ⟨gb, 0, none⟩ = some (.int .i64 0) := B2.out.cell 0
  have k2 : w2.cell? ⟨gb, 2, none⟩ = some (.slice A0 n0 c0) := B2.out.cell 2
  have k3 : w2.cell? ⟨gb, 3, none⟩ = some (.string t) := B2.out.cell 3
  have k5 : w2.cell? ⟨gb, 5, none⟩ = some (.slice Al m cl) := B2.out.cell 5
  by_cases hbig : 65536 < N2
  · have d5 : (65536 : Int) < (N2 : Int) := by omega
    have Q := Lib.hid (show decide ((l ++ E).length ≤ 65536) = false by rw [decide_eq_false_iff_not, List.length_append]; have := HLN.out; have := EL.out; have := HN2.out; omega)
    have Q2 := Lib.hid (show ¬ (l ++ E).length ≤ 65536 from of_decide_eq_false Q.out)
    clear hbig
    go_wp2_with fail
    (try simp only [Exit.inBlock, Exit.then])
    go_ret2
    rw [Q.out]
    exact ⟨⟨_, rfl, fun h => absurd h Q2.out⟩, BEL2.out⟩
  have d5 : ¬ (65536 : Int) < (N2 : Int) := by omega
  have HLE := Lib.hid (show N2 ≤ 65536 by omega)
  clear hbig
  have Q := Lib.hid (show decide ((l ++ E).length ≤ 65536) = true by rw [decide_eq_true_eq, List.length_append]; have := HLN.out; have := EL.out; have := HLE.out; have := HN2.out; omega)
  have d6 : (N2 : Int) ≤ 65536 := by have := HLE.out; omega
  have FIN := Lib.hid (show w2.ownsRow base 5 1 (.slice A3 N2 c3) (l ++ E).length (bytesV (l ++ E)) by
    rw [show (l ++ E).length = N2 by rw [List.length_append]; have := HLN.out; have := EL.out; have := HN2.out; omega]
    rw [EE.out]; exact OW2.out)
  by_cases hm0 : 0 < m
  · have hm1 : (0 : Int) < (m : Int) := by omega
    clear hm0
    go_wp2_with fail
    go_loopw [0, 7, 8] (fun ov okv iv wr => ov = .slice A3 N2 c3 ∧ okv = .bool true ∧ iv = .int .i64 0 ∧ wr = w2) (fun _ _ _ _ => 0)
    case atStart => exact ⟨rfl, rfl, rfl, rfl⟩
    case round =>
      obtain ⟨rfl, rfl, rfl, rfl⟩ := hrel
      go_wp2_with fail
      go_ret2
      rw [Q.out]
      exact ⟨⟨_, rfl, fun _ => ⟨FIN.out, LOC2.out⟩⟩, BEL2.out⟩
  · have hm1 : ¬ (0 : Int) < (m : Int) := by omega
    clear hm0
    go_wp2_with fail
    go_loopw [0, 7, 8] (fun ov okv iv wr => ov = .slice A3 N2 c3 ∧ okv = .bool true ∧ iv = .int .i64 0 ∧ wr = w2) (fun _ _ _ _ => 0)
    case atStart => exact ⟨rfl, rfl, rfl, rfl⟩
    case round =>
      obtain ⟨rfl, rfl, rfl, rfl⟩ := hrel
      go_wp2_with fail
      go_ret2
      rw [Q.out]
      exact ⟨⟨_, rfl, fun _ => ⟨FIN.out, LOC2.out⟩⟩, BEL2.out⟩
set_option maxRecDepth 100000 in
set_option maxHeartbeats 3200000 in
theorem rb_k1 (i : Int) (b : List UInt8) (t : ByteArray) (ks : List ByteArray) (lx : List Tr) : RBOK (.mk 1 i b t ks lx) := by
  intro d w B base n v l cs hcan hv hB hbase own hl hn
  unfold HasV at hv
  obtain ⟨A0, n0, c0, Ak, ck, Al, cl, rfl, hkb, hib, ⟨hr, hn0, hA0⟩, ht, ⟨hks, hkl⟩, hll, hL⟩ := hv
  obtain ⟨A, c, rfl, f1, f2, f3⟩ := own_form own
  obtain ⟨wA, hA⟩ : ∃ wA, wA = w.alloc (.cells #[.int .i64 1, .int .i64 i, .slice A0 n0 c0, .string t, .slice Ak ks.length ck, .slice Al lx.length cl] 26) := ⟨_, rfl⟩
  have sA : Still w wA := by rw [hA]; exact (Still.refl w).alloc (Nat.le_refl _) _
  have bA : Blk wA w.heap.size 26 #[.int .i64 1, .int .i64 i, .slice A0 n0 c0, .string t, .slice Ak ks.length ck, .slice Al lx.length cl] := by rw [hA]; exact Blk.new _ _ _
  have OWA := Lib.hid (own_still own sA)
  have NG := Lib.hid (show (Value.slice A n c).ownBlock ≠ some w.heap.size from fun e => by have := (own.lt _ e).2; omega)
  have LOW := Lib.hid (show ∀ b, (Value.slice A n c).ownBlock = some b → base ≤ b from fun b e => (own.lt b e).1)
  have HA := Lib.hid hA
  have SA := Lib.hid sA
  have BA := Lib.hid bA
  have HBW := Lib.hid hB
  have HBASE := Lib.hid hbase
  have HLN := Lib.hid hl
  have HN := Lib.hid hn
  have HT := Lib.hid ht
  have HN0 := Lib.hid hn0
  have HR := Lib.hid hr
  have HA0 := Lib.hid hA0
  obtain ⟨gb, hgb⟩ : ∃ gb, gb = w.heap.size := ⟨_, rfl⟩
  have HGB := Lib.hid hgb
  rw [← hgb] at BA NG
  obtain ⟨m, hm⟩ : ∃ m, m = lx.length := ⟨_, rfl⟩
  have HM := Lib.hid hm
  rw [← hm] at BA HA ⊢
  clear hA sA bA hB hbase own hl hn ht hn0 hr hA0 hgb hm hcan hkb hib hks hkl hll hL f1 f2 f3
  have EL := Lib.hid (show (encT (.mk 1 i b t ks lx)).length = 1 by unfold encT; simp)
  have EE := Lib.hid (show encT (.mk 1 i b t ks lx) = [UInt8.ofNat 194] by unfold encT; simp)
  obtain ⟨E, hE⟩ : ∃ E, E = encT (.mk 1 i b t ks lx) := ⟨_, rfl⟩
  rw [← hE] at EL EE ⊢
  clear hE
  go_enter Tryd.func20, Tryd.ntmps20
  go_upto_region 1 with fail
  rw [show (w.alloc (.cells #[.int .i64 1, .int .i64 i, .slice A0 n0 c0, .string t, .slice Ak ks.length ck, .slice Al m cl] 26)) = wA from HA.out.symm, ← HGB.out]
  have k0 : wA.cell? ⟨gb, 0, none⟩ = some (.int .i64 1) := BA.out.cell 0
  have k1 : wA.cell? ⟨gb, 1, none⟩ = some (.int .i64 i) := BA.out.cell 1
  have k2 : wA.cell? ⟨gb, 2, none⟩ = some (.slice A0 n0 c0) := BA.out.cell 2
  have k3 : wA.cell? ⟨gb, 3, none⟩ = some (.string t) := BA.out.cell 3
  have k5 : wA.cell? ⟨gb, 5, none⟩ = some (.slice Al m cl) := BA.out.cell 5
  go_upto_region 17 with fail
  obtain ⟨w1, hw1⟩ : ∃ w1, w1 = wA.alloc (.cells #[.int .u8 ((194 : Nat) : Int)] 5) := ⟨_, rfl⟩
  have S1 := Lib.hid (show Still wA w1 by rw [hw1]; exact (Still.refl wA).alloc (Nat.le_refl _) _)
  have RD := Lib.hid (show Reads w1 w1.heap.size (some ⟨wA.heap.size, 0, none⟩) 1 [UInt8.ofNat 194] by rw [hw1]; exact Reads.of_own (own_tag wA 194 (by omega)))
  have NA := Lib.hid (show some (⟨wA.heap.size, 0, none⟩ : Addr) = none → 1 = 0 from fun e => by cases e)
  rw [show (wA.alloc (.cells #[.int .u8 194] 5)) = w1 from hw1.symm]
  have LB := Lib.hid (show 1 ≤ 65536 by omega)
  clear hw1
  have OW1 := Lib.hid (own_still OWA.out S1.out)
  have B1 := Lib.hid (BA.out.still S1.out)
  have BEL1 := Lib.hid (show w.grownBy w1 (Value.slice A n c).ownBlock from grown_of_still (Still.trans SA.out S1.out))
  have Z1 := Lib.hid (show base ≤ w1.heap.size from Nat.le_trans HBASE.out (Still.trans SA.out S1.out).size)
  clear k0 k1 k2 k3 k5
  go_wp2_with (at_builtin; go_must (refine wpList_adds_at w1 rfl (.tmp 49) (.tmp 50) rfl base (.slice A n c) n l (by kernel_rfl) OW1.out (some ⟨wA.heap.size, 0, none⟩) 1 1 w1.heap.size [UInt8.ofNat 194] (by kernel_rfl) RD.out NA.out (by have := HN.out; have := LB.out; omega) Z1.out ?_))
  intro v2 w2 own2 gr2 loc2
  obtain ⟨A3, c3, rfl, q1, q2, q3⟩ := own_form own2
  clear q1 q2 q3
  obtain ⟨N2, hN2⟩ : ∃ N2, N2 = n + 1 := ⟨_, rfl⟩
  rw [← hN2] at own2 loc2 ⊢
  have HN2 := Lib.hid hN2
  clear hN2
  have OW2 := Lib.hid own2
  have B2 := Lib.hid (blk_grown B1.out gr2 NG.out)
  have BEL2 := Lib.hid (show w.grownBy w2 (Value.slice A n c).ownBlock from grown_trans BEL1.out gr2)
  have Z2 := Lib.hid (show base ≤ w2.heap.size from Nat.le_trans Z1.out gr2.size)
  have NG2 := Lib.hid (show (Value.slice A3 N2 c3).ownBlock ≠ some gb from fun e => by
    rcases loc2 with h | h
    · rw [h] at e; exact NG.out e
    · rw [h] at e; have := Option.some.inj e; have := B1.out.lt; omega)
  have LOC2 := Lib.hid (show ∀ b, (Value.slice A3 N2 c3).ownBlock = some b → (Value.slice A n c).ownBlock = some b ∨ w.heap.size ≤ b from fun b e => by
    rcases loc2 with h | h
    · rw [h] at e; exact .inl e
    · rw [h] at e; have := Option.some.inj e; have := (Still.trans SA.out S1.out).size; right; omega)
  have LOW2 := Lib.hid (show ∀ b, (Value.slice A3 N2 c3).ownBlock = some b → base ≤ b from fun b e => (OW2.out.lt b e).1)
  clear own2 gr2 loc2 OW1 B1 BEL1 RD NA
  have k0 : w2.cell? ⟨gb, 0, none⟩ = some (.int .i64 1) := B2.out.cell 0
  have k2 : w2.cell? ⟨gb, 2, none⟩ = some (.slice A0 n0 c0) := B2.out.cell 2
  have k3 : w2.cell? ⟨gb, 3, none⟩ = some (.string t) := B2.out.cell 3
  have k5 : w2.cell? ⟨gb, 5, none⟩ = some (.slice Al m cl) := B2.out.cell 5
  by_cases hbig : 65536 < N2
  · have d5 : (65536 : Int) < (N2 : Int) := by omega
    have Q := Lib.hid (show decide ((l ++ E).length ≤ 65536) = false by rw [decide_eq_false_iff_not, List.length_append]; have := HLN.out; have := EL.out; have := HN2.out; omega)
    have Q2 := Lib.hid (show ¬ (l ++ E).length ≤ 65536 from of_decide_eq_false Q.out)
    clear hbig
    go_wp2_with fail
    (try simp only [Exit.inBlock, Exit.then])
    go_ret2
    rw [Q.out]
    exact ⟨⟨_, rfl, fun h => absurd h Q2.out⟩, BEL2.out⟩
  have d5 : ¬ (65536 : Int) < (N2 : Int) := by omega
  have HLE := Lib.hid (show N2 ≤ 65536 by omega)
  clear hbig
  have Q := Lib.hid (show decide ((l ++ E).length ≤ 65536) = true by rw [decide_eq_true_eq, List.length_append]; have := HLN.out; have := EL.out; have := HLE.out; have := HN2.out; omega)
  have d6 : (N2 : Int) ≤ 65536 := by have := HLE.out; omega
  have FIN := Lib.hid (show w2.ownsRow base 5 1 (.slice A3 N2 c3) (l ++ E).length (bytesV (l ++ E)) by
    rw [show (l ++ E).length = N2 by rw [List.length_append]; have := HLN.out; have := EL.out; have := HN2.out; omega]
    rw [EE.out]; exact OW2.out)
  by_cases hm0 : 0 < m
  · have hm1 : (0 : Int) < (m : Int) := by omega
    clear hm0
    go_wp2_with fail
    go_loopw [0, 7, 8] (fun ov okv iv wr => ov = .slice A3 N2 c3 ∧ okv = .bool true ∧ iv = .int .i64 0 ∧ wr = w2) (fun _ _ _ _ => 0)
    case atStart => exact ⟨rfl, rfl, rfl, rfl⟩
    case round =>
      obtain ⟨rfl, rfl, rfl, rfl⟩ := hrel
      go_wp2_with fail
      go_ret2
      rw [Q.out]
      exact ⟨⟨_, rfl, fun _ => ⟨FIN.out, LOC2.out⟩⟩, BEL2.out⟩
  · have hm1 : ¬ (0 : Int) < (m : Int) := by omega
    clear hm0
    go_wp2_with fail
    go_loopw [0, 7, 8] (fun ov okv iv wr => ov = .slice A3 N2 c3 ∧ okv = .bool true ∧ iv = .int .i64 0 ∧ wr = w2) (fun _ _ _ _ => 0)
    case atStart => exact ⟨rfl, rfl, rfl, rfl⟩
    case round =>
      obtain ⟨rfl, rfl, rfl, rfl⟩ := hrel
      go_wp2_with fail
      go_ret2
      rw [Q.out]
      exact ⟨⟨_, rfl, fun _ => ⟨FIN.out, LOC2.out⟩⟩, BEL2.out⟩
set_option maxRecDepth 100000 in
set_option maxHeartbeats 3200000 in
theorem rb_k2 (i : Int) (b : List UInt8) (t : ByteArray) (ks : List ByteArray) (lx : List Tr) : RBOK (.mk 2 i b t ks lx) := by
  intro d w B base n v l cs hcan hv hB hbase own hl hn
  unfold HasV at hv
  obtain ⟨A0, n0, c0, Ak, ck, Al, cl, rfl, hkb, hib, ⟨hr, hn0, hA0⟩, ht, ⟨hks, hkl⟩, hll, hL⟩ := hv
  obtain ⟨A, c, rfl, f1, f2, f3⟩ := own_form own
  obtain ⟨wA, hA⟩ : ∃ wA, wA = w.alloc (.cells #[.int .i64 2, .int .i64 i, .slice A0 n0 c0, .string t, .slice Ak ks.length ck, .slice Al lx.length cl] 26) := ⟨_, rfl⟩
  have sA : Still w wA := by rw [hA]; exact (Still.refl w).alloc (Nat.le_refl _) _
  have bA : Blk wA w.heap.size 26 #[.int .i64 2, .int .i64 i, .slice A0 n0 c0, .string t, .slice Ak ks.length ck, .slice Al lx.length cl] := by rw [hA]; exact Blk.new _ _ _
  have OWA := Lib.hid (own_still own sA)
  have NG := Lib.hid (show (Value.slice A n c).ownBlock ≠ some w.heap.size from fun e => by have := (own.lt _ e).2; omega)
  have LOW := Lib.hid (show ∀ b, (Value.slice A n c).ownBlock = some b → base ≤ b from fun b e => (own.lt b e).1)
  have HA := Lib.hid hA
  have SA := Lib.hid sA
  have BA := Lib.hid bA
  have HBW := Lib.hid hB
  have HBASE := Lib.hid hbase
  have HLN := Lib.hid hl
  have HN := Lib.hid hn
  have HT := Lib.hid ht
  have HN0 := Lib.hid hn0
  have HR := Lib.hid hr
  have HA0 := Lib.hid hA0
  obtain ⟨gb, hgb⟩ : ∃ gb, gb = w.heap.size := ⟨_, rfl⟩
  have HGB := Lib.hid hgb
  rw [← hgb] at BA NG
  obtain ⟨m, hm⟩ : ∃ m, m = lx.length := ⟨_, rfl⟩
  have HM := Lib.hid hm
  rw [← hm] at BA HA ⊢
  clear hA sA bA hB hbase own hl hn ht hn0 hr hA0 hgb hm hcan hkb hib hks hkl hll hL f1 f2 f3
  have EL := Lib.hid (show (encT (.mk 2 i b t ks lx)).length = 1 by unfold encT; simp)
  have EE := Lib.hid (show encT (.mk 2 i b t ks lx) = [UInt8.ofNat 195] by unfold encT; simp)
  obtain ⟨E, hE⟩ : ∃ E, E = encT (.mk 2 i b t ks lx) := ⟨_, rfl⟩
  rw [← hE] at EL EE ⊢
  clear hE
  go_enter Tryd.func20, Tryd.ntmps20
  go_upto_region 1 with fail
  rw [show (w.alloc (.cells #[.int .i64 2, .int .i64 i, .slice A0 n0 c0, .string t, .slice Ak ks.length ck, .slice Al m cl] 26)) = wA from HA.out.symm, ← HGB.out]
  have k0 : wA.cell? ⟨gb, 0, none⟩ = some (.int .i64 2) := BA.out.cell 0
  have k1 : wA.cell? ⟨gb, 1, none⟩ = some (.int .i64 i) := BA.out.cell 1
  have k2 : wA.cell? ⟨gb, 2, none⟩ = some (.slice A0 n0 c0) := BA.out.cell 2
  have k3 : wA.cell? ⟨gb, 3, none⟩ = some (.string t) := BA.out.cell 3
  have k5 : wA.cell? ⟨gb, 5, none⟩ = some (.slice Al m cl) := BA.out.cell 5
  go_upto_region 17 with fail
  obtain ⟨w1, hw1⟩ : ∃ w1, w1 = wA.alloc (.cells #[.int .u8 ((195 : Nat) : Int)] 5) := ⟨_, rfl⟩
  have S1 := Lib.hid (show Still wA w1 by rw [hw1]; exact (Still.refl wA).alloc (Nat.le_refl _) _)
  have RD := Lib.hid (show Reads w1 w1.heap.size (some ⟨wA.heap.size, 0, none⟩) 1 [UInt8.ofNat 195] by rw [hw1]; exact Reads.of_own (own_tag wA 195 (by omega)))
  have NA := Lib.hid (show some (⟨wA.heap.size, 0, none⟩ : Addr) = none → 1 = 0 from fun e => by cases e)
  rw [show (wA.alloc (.cells #[.int .u8 195] 5)) = w1 from hw1.symm]
  have LB := Lib.hid (show 1 ≤ 65536 by omega)
  clear hw1
  have OW1 := Lib.hid (own_still OWA.out S1.out)
  have B1 := Lib.hid (BA.out.still S1.out)
  have BEL1 := Lib.hid (show w.grownBy w1 (Value.slice A n c).ownBlock from grown_of_still (Still.trans SA.out S1.out))
  have Z1 := Lib.hid (show base ≤ w1.heap.size from Nat.le_trans HBASE.out (Still.trans SA.out S1.out).size)
  clear k0 k1 k2 k3 k5
  go_wp2_with (at_builtin; go_must (refine wpList_adds_at w1 rfl (.tmp 49) (.tmp 50) rfl base (.slice A n c) n l (by kernel_rfl) OW1.out (some ⟨wA.heap.size, 0, none⟩) 1 1 w1.heap.size [UInt8.ofNat 195] (by kernel_rfl) RD.out NA.out (by have := HN.out; have := LB.out; omega) Z1.out ?_))
  intro v2 w2 own2 gr2 loc2
  obtain ⟨A3, c3, rfl, q1, q2, q3⟩ := own_form own2
  clear q1 q2 q3
  obtain ⟨N2, hN2⟩ : ∃ N2, N2 = n + 1 := ⟨_, rfl⟩
  rw [← hN2] at own2 loc2 ⊢
  have HN2 := Lib.hid hN2
  clear hN2
  have OW2 := Lib.hid own2
  have B2 := Lib.hid (blk_grown B1.out gr2 NG.out)
  have BEL2 := Lib.hid (show w.grownBy w2 (Value.slice A n c).ownBlock from grown_trans BEL1.out gr2)
  have Z2 := Lib.hid (show base ≤ w2.heap.size from Nat.le_trans Z1.out gr2.size)
  have NG2 := Lib.hid (show (Value.slice A3 N2 c3).ownBlock ≠ some gb from fun e => by
    rcases loc2 with h | h
    · rw [h] at e; exact NG.out e
    · rw [h] at e; have := Option.some.inj e; have := B1.out.lt; omega)
  have LOC2 := Lib.hid (show ∀ b, (Value.slice A3 N2 c3).ownBlock = some b → (Value.slice A n c).ownBlock = some b ∨ w.heap.size ≤ b from fun b e => by
    rcases loc2 with h | h
    · rw [h] at e; exact .inl e
    · rw [h] at e; have := Option.some.inj e; have := (Still.trans SA.out S1.out).size; right; omega)
  have LOW2 := Lib.hid (show ∀ b, (Value.slice A3 N2 c3).ownBlock = some b → base ≤ b from fun b e => (OW2.out.lt b e).1)
  clear own2 gr2 loc2 OW1 B1 BEL1 RD NA
  have k0 : w2.cell? ⟨gb, 0, none⟩ = some (.int .i64 2) := B2.out.cell 0
  have k2 : w2.cell? ⟨gb, 2, none⟩ = some (.slice A0 n0 c0) := B2.out.cell 2
  have k3 : w2.cell? ⟨gb, 3, none⟩ = some (.string t) := B2.out.cell 3
  have k5 : w2.cell? ⟨gb, 5, none⟩ = some (.slice Al m cl) := B2.out.cell 5
  by_cases hbig : 65536 < N2
  · have d5 : (65536 : Int) < (N2 : Int) := by omega
    have Q := Lib.hid (show decide ((l ++ E).length ≤ 65536) = false by rw [decide_eq_false_iff_not, List.length_append]; have := HLN.out; have := EL.out; have := HN2.out; omega)
    have Q2 := Lib.hid (show ¬ (l ++ E).length ≤ 65536 from of_decide_eq_false Q.out)
    clear hbig
    go_wp2_with fail
    (try simp only [Exit.inBlock, Exit.then])
    go_ret2
    rw [Q.out]
    exact ⟨⟨_, rfl, fun h => absurd h Q2.out⟩, BEL2.out⟩
  have d5 : ¬ (65536 : Int) < (N2 : Int) := by omega
  have HLE := Lib.hid (show N2 ≤ 65536 by omega)
  clear hbig
  have Q := Lib.hid (show decide ((l ++ E).length ≤ 65536) = true by rw [decide_eq_true_eq, List.length_append]; have := HLN.out; have := EL.out; have := HLE.out; have := HN2.out; omega)
  have d6 : (N2 : Int) ≤ 65536 := by have := HLE.out; omega
  have FIN := Lib.hid (show w2.ownsRow base 5 1 (.slice A3 N2 c3) (l ++ E).length (bytesV (l ++ E)) by
    rw [show (l ++ E).length = N2 by rw [List.length_append]; have := HLN.out; have := EL.out; have := HN2.out; omega]
    rw [EE.out]; exact OW2.out)
  by_cases hm0 : 0 < m
  · have hm1 : (0 : Int) < (m : Int) := by omega
    clear hm0
    go_wp2_with fail
    go_loopw [0, 7, 8] (fun ov okv iv wr => ov = .slice A3 N2 c3 ∧ okv = .bool true ∧ iv = .int .i64 0 ∧ wr = w2) (fun _ _ _ _ => 0)
    case atStart => exact ⟨rfl, rfl, rfl, rfl⟩
    case round =>
      obtain ⟨rfl, rfl, rfl, rfl⟩ := hrel
      go_wp2_with fail
      go_ret2
      rw [Q.out]
      exact ⟨⟨_, rfl, fun _ => ⟨FIN.out, LOC2.out⟩⟩, BEL2.out⟩
  · have hm1 : ¬ (0 : Int) < (m : Int) := by omega
    clear hm0
    go_wp2_with fail
    go_loopw [0, 7, 8] (fun ov okv iv wr => ov = .slice A3 N2 c3 ∧ okv = .bool true ∧ iv = .int .i64 0 ∧ wr = w2) (fun _ _ _ _ => 0)
    case atStart => exact ⟨rfl, rfl, rfl, rfl⟩
    case round =>
      obtain ⟨rfl, rfl, rfl, rfl⟩ := hrel
      go_wp2_with fail
      go_ret2
      rw [Q.out]
      exact ⟨⟨_, rfl, fun _ => ⟨FIN.out, LOC2.out⟩⟩, BEL2.out⟩
set_option maxRecDepth 100000 in
set_option maxHeartbeats 3200000 in
theorem rb_k3 (i : Int) (b : List UInt8) (t : ByteArray) (ks : List ByteArray) (lx : List Tr) : RBOK (.mk 3 i b t ks lx) := by
  intro d w B base n v l cs hcan hv hB hbase own hl hn
  unfold HasV at hv
  obtain ⟨A0, n0, c0, Ak, ck, Al, cl, rfl, hkb, hib, ⟨hr, hn0, hA0⟩, ht, ⟨hks, hkl⟩, hll, hL⟩ := hv
  obtain ⟨A, c, rfl, f1, f2, f3⟩ := own_form own
  obtain ⟨wA, hA⟩ : ∃ wA, wA = w.alloc (.cells #[.int .i64 3, .int .i64 i, .slice A0 n0 c0, .string t, .slice Ak ks.length ck, .slice Al lx.length cl] 26) := ⟨_, rfl⟩
  have sA : Still w wA := by rw [hA]; exact (Still.refl w).alloc (Nat.le_refl _) _
  have bA : Blk wA w.heap.size 26 #[.int .i64 3, .int .i64 i, .slice A0 n0 c0, .string t, .slice Ak ks.length ck, .slice Al lx.length cl] := by rw [hA]; exact Blk.new _ _ _
  have OWA := Lib.hid (own_still own sA)
  have NG := Lib.hid (show (Value.slice A n c).ownBlock ≠ some w.heap.size from fun e => by have := (own.lt _ e).2; omega)
  have LOW := Lib.hid (show ∀ b, (Value.slice A n c).ownBlock = some b → base ≤ b from fun b e => (own.lt b e).1)
  have HA := Lib.hid hA
  have SA := Lib.hid sA
  have BA := Lib.hid bA
  have HBW := Lib.hid hB
  have HBASE := Lib.hid hbase
  have HLN := Lib.hid hl
  have HN := Lib.hid hn
  have HT := Lib.hid ht
  have HN0 := Lib.hid hn0
  have HR := Lib.hid hr
  have HA0 := Lib.hid hA0
  obtain ⟨gb, hgb⟩ : ∃ gb, gb = w.heap.size := ⟨_, rfl⟩
  have HGB := Lib.hid hgb
  rw [← hgb] at BA NG
  obtain ⟨m, hm⟩ : ∃ m, m = lx.length := ⟨_, rfl⟩
  have HM := Lib.hid hm
  rw [← hm] at BA HA ⊢
  have RI := Lib.hid (fun W => rinteger_any i W hib)
  have EE := Lib.hid (show encT (.mk 3 i b t ks lx) = encI i by unfold encT; simp)
  have hpos : 0 < (encI i).length := by rw [encI_length]; omega
  have hle9 : (encI i).length ≤ 9 := by rw [encI_length]; have := bh_le (nt i); omega
  clear hA sA bA hB hbase own hl hn ht hn0 hr hA0 hgb hm hcan hkb hib hks hkl hll hL f1 f2 f3
  rw [← EE.out] at RI hpos hle9
  have HI := Lib.hid EE.out
  obtain ⟨E, hE⟩ : ∃ E, E = encT (.mk 3 i b t ks lx) := ⟨_, rfl⟩
  rw [← hE] at RI hpos hle9 ⊢
  obtain ⟨L, hL⟩ : ∃ L, L = E.length := ⟨_, rfl⟩
  have EL := Lib.hid hL.symm
  rw [← hL] at RI hpos hle9
  have HPOS := Lib.hid hpos
  have LB := Lib.hid (show L ≤ 65536 by omega)
  have dl : ¬ (L : Int) = 0 := by omega
  clear hE hL hpos hle9 EE HI
  go_enter Tryd.func20, Tryd.ntmps20
  go_upto_region 1 with fail
  rw [show (w.alloc (.cells #[.int .i64 3, .int .i64 i, .slice A0 n0 c0, .string t, .slice Ak ks.length ck, .slice Al m cl] 26)) = wA from HA.out.symm, ← HGB.out]
  have k0 : wA.cell? ⟨gb, 0, none⟩ = some (.int .i64 3) := BA.out.cell 0
  have k1 : wA.cell? ⟨gb, 1, none⟩ = some (.int .i64 i) := BA.out.cell 1
  have k2 : wA.cell? ⟨gb, 2, none⟩ = some (.slice A0 n0 c0) := BA.out.cell 2
  have k3 : wA.cell? ⟨gb, 3, none⟩ = some (.string t) := BA.out.cell 3
  have k5 : wA.cell? ⟨gb, 5, none⟩ = some (.slice Al m cl) := BA.out.cell 5
  go_wp2_with fail
  refine (RI.out _).mono ?_
  rintro e w1 ⟨⟨v1, rfl, own1⟩, s1⟩
  obtain ⟨A2, c2, rfl, q1, q2, q3⟩ := own_form own1
  have S1 := Lib.hid s1
  have RD := Lib.hid (show Reads w1 w1.heap.size A2 L E from Reads.of_own own1)
  have NA := Lib.hid (fun e : A2 = none => (q3 e).2)
  clear own1 s1 q1 q2 q3 RI
  have OW1 := Lib.hid (own_still OWA.out S1.out)
  have B1 := Lib.hid (BA.out.still S1.out)
  have BEL1 := Lib.hid (show w.grownBy w1 (Value.slice A n c).ownBlock from grown_of_still (Still.trans SA.out S1.out))
  have Z1 := Lib.hid (show base ≤ w1.heap.size from Nat.le_trans HBASE.out (Still.trans SA.out S1.out).size)
  clear k0 k1 k2 k3 k5
  go_wp2_with (at_builtin; go_must (refine wpList_adds_at w1 rfl (.tmp 49) (.tmp 50) rfl base (.slice A n c) n l (by kernel_rfl) OW1.out A2 L c2 w1.heap.size E (by kernel_rfl) RD.out NA.out (by have := HN.out; have := LB.out; omega) Z1.out ?_))
  intro v2 w2 own2 gr2 loc2
  obtain ⟨A3, c3, rfl, q1, q2, q3⟩ := own_form own2
  clear q1 q2 q3
  obtain ⟨N2, hN2⟩ : ∃ N2, N2 = n + L := ⟨_, rfl⟩
  rw [← hN2] at own2 loc2 ⊢
  have HN2 := Lib.hid hN2
  clear hN2
  have OW2 := Lib.hid own2
  have B2 := Lib.hid (blk_grown B1.out gr2 NG.out)
  have BEL2 := Lib.hid (show w.grownBy w2 (Value.slice A n c).ownBlock from grown_trans BEL1.out gr2)
  have Z2 := Lib.hid (show base ≤ w2.heap.size from Nat.le_trans Z1.out gr2.size)
  have NG2 := Lib.hid (show (Value.slice A3 N2 c3).ownBlock ≠ some gb from fun e => by
    rcases loc2 with h | h
    · rw [h] at e; exact NG.out e
    · rw [h] at e; have := Option.some.inj e; have := B1.out.lt; omega)
  have LOC2 := Lib.hid (show ∀ b, (Value.slice A3 N2 c3).ownBlock = some b → (Value.slice A n c).ownBlock = some b ∨ w.heap.size ≤ b from fun b e => by
    rcases loc2 with h | h
    · rw [h] at e; exact .inl e
    · rw [h] at e; have := Option.some.inj e; have := (Still.trans SA.out S1.out).size; right; omega)
  have LOW2 := Lib.hid (show ∀ b, (Value.slice A3 N2 c3).ownBlock = some b → base ≤ b from fun b e => (OW2.out.lt b e).1)
  clear own2 gr2 loc2 OW1 B1 BEL1 RD NA
  have k0 : w2.cell? ⟨gb, 0, none⟩ = some (.int .i64 3) := B2.out.cell 0
  have k2 : w2.cell? ⟨gb, 2, none⟩ = some (.slice A0 n0 c0) := B2.out.cell 2
  have k3 : w2.cell? ⟨gb, 3, none⟩ = some (.string t) := B2.out.cell 3
  have k5 : w2.cell? ⟨gb, 5, none⟩ = some (.slice Al m cl) := B2.out.cell 5
  by_cases hbig : 65536 < N2
  · have d5 : (65536 : Int) < (N2 : Int) := by omega
    have Q := Lib.hid (show decide ((l ++ E).length ≤ 65536) = false by rw [decide_eq_false_iff_not, List.length_append]; have := HLN.out; have := EL.out; have := HN2.out; omega)
    have Q2 := Lib.hid (show ¬ (l ++ E).length ≤ 65536 from of_decide_eq_false Q.out)
    clear hbig
    go_wp2_with fail
    (try simp only [Exit.inBlock, Exit.then])
    go_ret2
    rw [Q.out]
    exact ⟨⟨_, rfl, fun h => absurd h Q2.out⟩, BEL2.out⟩
  have d5 : ¬ (65536 : Int) < (N2 : Int) := by omega
  have HLE := Lib.hid (show N2 ≤ 65536 by omega)
  clear hbig
  have Q := Lib.hid (show decide ((l ++ E).length ≤ 65536) = true by rw [decide_eq_true_eq, List.length_append]; have := HLN.out; have := EL.out; have := HLE.out; have := HN2.out; omega)
  have d6 : (N2 : Int) ≤ 65536 := by have := HLE.out; omega
  have FIN := Lib.hid (show w2.ownsRow base 5 1 (.slice A3 N2 c3) (l ++ E).length (bytesV (l ++ E)) by
    rw [show (l ++ E).length = N2 by rw [List.length_append]; have := HLN.out; have := EL.out; have := HN2.out; omega]
    exact OW2.out)
  by_cases hm0 : 0 < m
  · have hm1 : (0 : Int) < (m : Int) := by omega
    clear hm0
    go_wp2_with fail
    go_loopw [0, 7, 8] (fun ov okv iv wr => ov = .slice A3 N2 c3 ∧ okv = .bool true ∧ iv = .int .i64 0 ∧ wr = w2) (fun _ _ _ _ => 0)
    case atStart => exact ⟨rfl, rfl, rfl, rfl⟩
    case round =>
      obtain ⟨rfl, rfl, rfl, rfl⟩ := hrel
      go_wp2_with fail
      go_ret2
      rw [Q.out]
      exact ⟨⟨_, rfl, fun _ => ⟨FIN.out, LOC2.out⟩⟩, BEL2.out⟩
  · have hm1 : ¬ (0 : Int) < (m : Int) := by omega
    clear hm0
    go_wp2_with fail
    go_loopw [0, 7, 8] (fun ov okv iv wr => ov = .slice A3 N2 c3 ∧ okv = .bool true ∧ iv = .int .i64 0 ∧ wr = w2) (fun _ _ _ _ => 0)
    case atStart => exact ⟨rfl, rfl, rfl, rfl⟩
    case round =>
      obtain ⟨rfl, rfl, rfl, rfl⟩ := hrel
      go_wp2_with fail
      go_ret2
      rw [Q.out]
      exact ⟨⟨_, rfl, fun _ => ⟨FIN.out, LOC2.out⟩⟩, BEL2.out⟩
end Go.Proofs.YtmjijajndeihaaaDoor

/- The document's own: a value's bytes; bytes and texts. It proves no statement. -/





namespace Go.Proofs.YtmjijajndeihaaaDoor
open Go.RowKit
set_option linter.unusedVariables false
set_option linter.unusedSimpArgs false

theorem run_text_at (w : World) (ty : TypeId) (base : Nat) (v : Value) (n : Nat) (l : List UInt8) (hown : w.ownsRow base 5 1 v n (bytesV l)) (t : ByteArray) (hn : n + t.size ≤ 140737488355328) (hbase : base ≤ w.heap.size) :
    ∃ v' w', (Builtin.append_ #[22, 9] ty #[v, .string t]).run Tryd.prog w = .ok v' w' ∧ w'.ownsRow base 5 1 v' (n + t.size) (bytesV (l ++ t.data.toList)) ∧ w.grownBy w' v.ownBlock ∧ (∀ b, v'.ownBlock = some b → v.ownBlock = some b ∨ w.heap.size ≤ b) := by
  obtain ⟨i0, hi, hz0, hz1, hz2⟩ := info_parts Tryd.infoByte
  obtain ⟨v', w', hrun, h2, h3, h4⟩ := Lib.run_append_own_string (P := Tryd.prog) w base 22 9 ty 5 i0 Tryd.underlying22 Tryd.underlying9 hi hz0 hz1 hz2 v n _ hown t (by unfold maxLen; omega) hn hbase
  refine ⟨v', w', hrun, by rw [bytesV_append]; exact h2, h3, fun b hb => ?_⟩
  rcases hown.2 with ⟨rfl, hnil⟩ | ⟨g, cap, cur, rfl, hbg, hg, hnc, hcm, hcs, htake⟩
  · right
    have hl : l = [] := by
      have := hown.1
      cases l with
      | nil => rfl
      | cons a r => rw [bytesV_length] at this; simp at this; omega
    subst hl
    obtain ⟨v2, w2, hrun2, k2, _, _⟩ := Lib.run_append_own_string (P := Tryd.prog) w w.heap.size 22 9 ty 5 i0 Tryd.underlying22 Tryd.underlying9 hi hz0 hz1 hz2 (.slice none 0 0) 0 _ (World.ownsRow_nil w w.heap.size 5 1) t (by unfold maxLen; omega) (by omega) (Nat.le_refl _)
    obtain ⟨e1, _⟩ := Result.ok.inj (hrun.symm.trans hrun2)
    subst e1
    exact (k2.lt b hb).1
  · by_cases hroom : n + t.size ≤ cap
    · left
      have hcs' : cur.size = cap := by simpa using hcs
      have hr := Lib.run_append_room_string (P := Tryd.prog) w 22 9 ty 5 i0 Tryd.underlying22 Tryd.underlying9 hi hz1 g n cap cur hg t hroom (by omega)
      obtain ⟨e1, _⟩ := Result.ok.inj (hrun.symm.trans hr)
      rw [e1] at hb
      exact hb
    · right
      have hxl : (bytesV l).length = n := by simpa using hown.1
      have holds : ∀ j u, (bytesV l)[j]? = some u → w.cell? ((⟨g, 0, none⟩ : Addr).add j) = some u := hown.cells (g := g) rfl
      have hr := Lib.run_append_grow_string (P := Tryd.prog) w 22 9 ty 5 i0 (.int .u8 0) Tryd.underlying22 Tryd.underlying9 hi hz0 ⟨g, 0, none⟩ n cap (bytesV l) (by rw [hz1]; simpa using hxl) holds t (by omega) (by omega) (by rw [hz2]; exact growslice_fits (by omega) (by omega))
      obtain ⟨e1, _⟩ := Result.ok.inj (hrun.symm.trans hr)
      rw [e1] at hb
      have h9 : w.heap.size = b := Option.some.inj hb
      rw [h9]
      exact Nat.le_refl _
theorem app_text (w : World) {ops : Array Oper} {rest : List Oper} {o : Oper} {a : Act} {Q : Exit → Act → World → Prop} (hgd : o.guard = none) (s x : Operand)
    (ho : o.op = .call { callee := .builtin .append, args := #[s, x], argTypes := #[22, 9] })
    (base : Nat) (v : Value) (n : Nat) (l : List UInt8) (hs : a.eval s = v) (hown : w.ownsRow base 5 1 v n (bytesV l)) (t : ByteArray)
    (hx : a.eval x = .string t) (hn : n + t.size ≤ 140737488355328) (hbase : base ≤ w.heap.size)
    (h : ∀ v' w', w'.ownsRow base 5 1 v' (n + t.size) (bytesV (l ++ t.data.toList)) → w.grownBy w' v.ownBlock → (∀ b, v'.ownBlock = some b → v.ownBlock = some b ∨ w.heap.size ≤ b) → wpList Tryd.prog ops Q rest (a.put o.dst v') w') :
    wpList Tryd.prog ops Q (o :: rest) a w := by
  refine wpList_plain hgd fun K hK => ?_
  obtain ⟨v', w', hrun, h2, h3, h4⟩ := run_text_at w o.type base v n l hown t hn hbase
  unfold Oper.wp execOp
  simp only [ho, resolve, invoke, builtin, Sem.run_bind, Sem.run_pure, Result.andThen_ok, List.map_toArray, List.map_cons, List.map_nil, hs, hx, hrun]
  exact hK _ _ (h v' w' h2 h3 h4)

set_option maxRecDepth 100000 in
set_option maxHeartbeats 3200000 in
theorem rb_k4 (i : Int) (b : List UInt8) (t : ByteArray) (ks : List ByteArray) (lx : List Tr) : RBOK (.mk 4 i b t ks lx) := by
  intro d w B base n v l cs hcan hv hB hbase own hl hn
  unfold HasV at hv
  obtain ⟨A0, n0, c0, Ak, ck, Al, cl, rfl, hkb, hib, ⟨hr, hn0, hA0⟩, ht, ⟨hks, hkl⟩, hll, hL⟩ := hv
  obtain ⟨A, c, rfl, f1, f2, f3⟩ := own_form own
  obtain ⟨wA, hA⟩ : ∃ wA, wA = w.alloc (.cells #[.int .i64 4, .int .i64 i, .slice A0 n0 c0, .string t, .slice Ak ks.length ck, .slice Al lx.length cl] 26) := ⟨_, rfl⟩
  have sA : Still w wA := by rw [hA]; exact (Still.refl w).alloc (Nat.le_refl _) _
  have bA : Blk wA w.heap.size 26 #[.int .i64 4, .int .i64 i, .slice A0 n0 c0, .string t, .slice Ak ks.length ck, .slice Al lx.length cl] := by rw [hA]; exact Blk.new _ _ _
  have OWA := Lib.hid (own_still own sA)
  have NG := Lib.hid (show (Value.slice A n c).ownBlock ≠ some w.heap.size from fun e => by have := (own.lt _ e).2; omega)
  have LOW := Lib.hid (show ∀ b, (Value.slice A n c).ownBlock = some b → base ≤ b from fun b e => (own.lt b e).1)
  have HA := Lib.hid hA
  have SA := Lib.hid sA
  have BA := Lib.hid bA
  have HBW := Lib.hid hB
  have HBASE := Lib.hid hbase
  have HLN := Lib.hid hl
  have HN := Lib.hid hn
  have HT := Lib.hid ht
  have HN0 := Lib.hid hn0
  have HR := Lib.hid hr
  have HA0 := Lib.hid hA0
  obtain ⟨gb, hgb⟩ : ∃ gb, gb = w.heap.size := ⟨_, rfl⟩
  have HGB := Lib.hid hgb
  rw [← hgb] at BA NG
  obtain ⟨m, hm⟩ : ∃ m, m = lx.length := ⟨_, rfl⟩
  have HM := Lib.hid hm
  rw [← hm] at BA HA ⊢
  have EB := Lib.hid hr.1
  have EE := Lib.hid (show encT (.mk 4 i b t ks lx) = szB 4 b.length ++ b by unfold encT; simp)
  have hnum : b.length = n0 := hr.1
  rw [hnum] at EE
  obtain ⟨z, hz⟩ : ∃ z, z = n0 := ⟨_, rfl⟩
  have CNT := Lib.hid (fun W => rcounted_any 4 z (by omega) (by omega) W)
  have CNT' : Hid (∀ W, Calls Tryd.prog 38 #[.int .i64 (z : Int), .int .u8 0, .int .i64 (-1), .int .u8 196, .int .u8 197] W fun e w' => (∃ v, e = .returned v ∧ (if 65535 < z then v = .slice none 0 0 else w'.ownsRow W.heap.size 5 1 v (szB 4 z).length (bytesV (szB 4 z)))) ∧ Still W w') := CNT
  rw [← hz] at EE hnum
  have ZB := Lib.hid (show z ≤ 1048576 by omega)
  have HZ := Lib.hid hz
  have DL := Lib.hid hnum
  clear CNT hnum
  clear hA sA bA hB hbase own hl hn ht hn0 hr hA0 hgb hm hcan hkb hib hks hkl hll hL f1 f2 f3 hz
  obtain ⟨E, hE⟩ : ∃ E, E = encT (.mk 4 i b t ks lx) := ⟨_, rfl⟩
  rw [← hE] at EE ⊢
  clear hE
  go_enter Tryd.func20, Tryd.ntmps20
  go_upto_region 1 with fail
  rw [show (w.alloc (.cells #[.int .i64 4, .int .i64 i, .slice A0 n0 c0, .string t, .slice Ak ks.length ck, .slice Al m cl] 26)) = wA from HA.out.symm, ← HGB.out]
  have k0 : wA.cell? ⟨gb, 0, none⟩ = some (.int .i64 4) := BA.out.cell 0
  have k1 : wA.cell? ⟨gb, 1, none⟩ = some (.int .i64 i) := BA.out.cell 1
  have k2 : wA.cell? ⟨gb, 2, none⟩ = some (.slice A0 n0 c0) := BA.out.cell 2
  have k3 : wA.cell? ⟨gb, 3, none⟩ = some (.string t) := BA.out.cell 3
  have k5 : wA.cell? ⟨gb, 5, none⟩ = some (.slice Al m cl) := BA.out.cell 5
  rw [← HZ.out] at k2
  go_wp2_with fail
  refine (CNT'.out _).mono ?_
  rintro e w1 ⟨⟨v1, rfl, hv1⟩, s1⟩
  have S1 := Lib.hid s1
  clear s1 CNT'
  by_cases hbz : 65535 < z
  · rw [if_pos hbz] at hv1
    subst hv1
    have Q := Lib.hid (show decide ((l ++ E).length ≤ 65536) = false by
      rw [decide_eq_false_iff_not, List.length_append, EE.out, List.length_append, show (szB 4 z).length = 65537 by unfold szB; rw [if_pos hbz]; exact List.length_replicate]; omega)
    have Q2 := Lib.hid (show ¬ (l ++ E).length ≤ 65536 from of_decide_eq_false Q.out)
    have OW1 := Lib.hid (own_still OWA.out S1.out)
    have Z1 := Lib.hid (show base ≤ w1.heap.size from Nat.le_trans HBASE.out (Still.trans SA.out S1.out).size)
    have BEL1 := Lib.hid (show w.grownBy w1 (Value.slice A n c).ownBlock from grown_of_still (Still.trans SA.out S1.out))
    clear hbz k0 k1 k2 k3 k5
    go_wp2_with (at_builtin; go_must (refine wpList_adds_at w1 rfl (.tmp 49) (.tmp 50) rfl base (.slice A n c) n l (by kernel_rfl) OW1.out none 0 0 w1.heap.size [] (by kernel_rfl) Reads.nil0 (fun _ => rfl) (by have := HN.out; omega) Z1.out ?_))
    intro v2 w2 own2 gr2 loc2
    obtain ⟨A3, c3, rfl, q1, q2, q3⟩ := own_form own2
    have BEL2 := Lib.hid (show w.grownBy w2 (Value.slice A n c).ownBlock from grown_trans BEL1.out gr2)
    clear own2 gr2 loc2 q1 q2 q3
    go_wp2_with fail
    (try simp only [Exit.inBlock, Exit.then])
    go_ret2
    rw [Q.out]
    exact ⟨⟨_, rfl, fun h => absurd h Q2.out⟩, BEL2.out⟩
  rw [if_neg hbz] at hv1
  obtain ⟨S, hS⟩ : ∃ S, S = szB 4 z := ⟨_, rfl⟩
  have hsl : 0 < (szB 4 z).length := by unfold szB; rw [if_neg hbz]; simp
  have hsm : (szB 4 z).length ≤ 65536 := by unfold szB; rw [if_neg hbz]; have := numB_length (st 4 z) z; have := bh_le (st 4 z); simp; omega
  rw [← hS] at hv1 EE hsl hsm
  obtain ⟨L, hL⟩ : ∃ L, L = S.length := ⟨_, rfl⟩
  rw [← hL] at hv1 hsl hsm
  obtain ⟨A2, c2, rfl, q1, q2, q3⟩ := own_form hv1
  have RD := Lib.hid (show Reads w1 w1.heap.size A2 L S from Reads.of_own hv1)
  have NA := Lib.hid (fun e : A2 = none => (q3 e).2)
  have EL := Lib.hid (show E.length = L + z by rw [EE.out, List.length_append, ← hL, DL.out])
  have LB := Lib.hid hsm
  have dl : ¬ (L : Int) = 0 := by omega
  clear hv1 q1 q2 q3 hS hL hsl hsm hbz
  have OW1 := Lib.hid (own_still OWA.out S1.out)
  have B1 := Lib.hid (BA.out.still S1.out)
  have BEL1 := Lib.hid (show w.grownBy w1 (Value.slice A n c).ownBlock from grown_of_still (Still.trans SA.out S1.out))
  have Z1 := Lib.hid (show base ≤ w1.heap.size from Nat.le_trans HBASE.out (Still.trans SA.out S1.out).size)
  clear k0 k1 k2 k3 k5
  go_wp2_with (at_builtin; go_must (refine wpList_adds_at w1 rfl (.tmp 49) (.tmp 50) rfl base (.slice A n c) n l (by kernel_rfl) OW1.out A2 L c2 w1.heap.size S (by kernel_rfl) RD.out NA.out (by have := HN.out; have := LB.out; omega) Z1.out ?_))
  intro v2 w2 own2 gr2 loc2
  obtain ⟨A3, c3, rfl, q1, q2, q3⟩ := own_form own2
  clear q1 q2 q3
  obtain ⟨N2, hN2⟩ : ∃ N2, N2 = n + L := ⟨_, rfl⟩
  rw [← hN2] at own2 loc2 ⊢
  have HN2 := Lib.hid hN2
  clear hN2
  have OW2 := Lib.hid own2
  have B2 := Lib.hid (blk_grown B1.out gr2 NG.out)
  have BEL2 := Lib.hid (show w.grownBy w2 (Value.slice A n c).ownBlock from grown_trans BEL1.out gr2)
  have Z2 := Lib.hid (show base ≤ w2.heap.size from Nat.le_trans Z1.out gr2.size)
  have NG2 := Lib.hid (show (Value.slice A3 N2 c3).ownBlock ≠ some gb from fun e => by
    rcases loc2 with h | h
    · rw [h] at e; exact NG.out e
    · rw [h] at e; have := Option.some.inj e; have := B1.out.lt; omega)
  have LOC2 := Lib.hid (show ∀ b, (Value.slice A3 N2 c3).ownBlock = some b → (Value.slice A n c).ownBlock = some b ∨ w.heap.size ≤ b from fun b e => by
    rcases loc2 with h | h
    · rw [h] at e; exact .inl e
    · rw [h] at e; have := Option.some.inj e; have := (Still.trans SA.out S1.out).size; right; omega)
  have LOW2 := Lib.hid (show ∀ b, (Value.slice A3 N2 c3).ownBlock = some b → base ≤ b from fun b e => (OW2.out.lt b e).1)
  have GRZ := Lib.hid (show w1.heap.size ≤ w2.heap.size from gr2.size)
  clear own2 gr2 loc2 OW1 B1 BEL1 RD NA
  have k0 : w2.cell? ⟨gb, 0, none⟩ = some (.int .i64 4) := B2.out.cell 0
  have k2 : w2.cell? ⟨gb, 2, none⟩ = some (.slice A0 n0 c0) := B2.out.cell 2
  have k3 : w2.cell? ⟨gb, 3, none⟩ = some (.string t) := B2.out.cell 3
  have k5 : w2.cell? ⟨gb, 5, none⟩ = some (.slice Al m cl) := B2.out.cell 5
  rw [← HZ.out] at k2
  by_cases hbig : 65536 < N2
  · have d5 : (65536 : Int) < (N2 : Int) := by omega
    have Q := Lib.hid (show decide ((l ++ E).length ≤ 65536) = false by rw [decide_eq_false_iff_not, List.length_append]; have := HLN.out; have := EL.out; have := HN2.out; omega)
    have Q2 := Lib.hid (show ¬ (l ++ E).length ≤ 65536 from of_decide_eq_false Q.out)
    clear hbig
    go_wp2_with fail
    (try simp only [Exit.inBlock, Exit.then])
    go_ret2
    rw [Q.out]
    exact ⟨⟨_, rfl, fun h => absurd h Q2.out⟩, BEL2.out⟩
  have d5 : ¬ (65536 : Int) < (N2 : Int) := by omega
  have HLE := Lib.hid (show N2 ≤ 65536 by omega)
  clear hbig
  have RB := Lib.hid (show Reads w2 base A0 z b by rw [HZ.out]; exact (HR.out.more HBW.out).below (Below.grown (Below.refl _ _) BEL2.out HBASE.out LOW.out))
  go_wp2_with (at_builtin; go_must (refine wpList_adds_at w2 rfl (.tmp 64) (.tmp 66) rfl base (.slice A3 N2 c3) N2 (l ++ S) (by kernel_rfl) OW2.out A0 z c0 base b (by kernel_rfl) RB.out HA0.out (by have := HLE.out; have := ZB.out; omega) Z2.out ?_))
  intro v4 w4 own4 gr4 loc4
  obtain ⟨A4, c4, rfl, q1, q2, q3⟩ := own_form own4
  clear q1 q2 q3
  obtain ⟨N4, hN4⟩ : ∃ N4, N4 = N2 + z := ⟨_, rfl⟩
  rw [← hN4] at own4 loc4 ⊢
  have HN4 := Lib.hid hN4
  clear hN4
  have OW4 := Lib.hid own4
  have B4 := Lib.hid (blk_grown B2.out gr4 NG2.out)
  have BEL4 := Lib.hid (grown_own BEL2.out gr4 LOC2.out)
  have LOC4 := Lib.hid (show ∀ b, (Value.slice A4 N4 c4).ownBlock = some b → (Value.slice A n c).ownBlock = some b ∨ w.heap.size ≤ b from fun b e => by
    rcases loc4 with h | h
    · rw [h] at e; exact LOC2.out b e
    · rw [h] at e; have := Option.some.inj e; have := (Still.trans SA.out S1.out).size; have := GRZ.out; right; omega)
  clear loc4
  clear own4 gr4 k0 k2 k3 k5 d5
  have k0 : w4.cell? ⟨gb, 0, none⟩ = some (.int .i64 4) := B4.out.cell 0
  have k5 : w4.cell? ⟨gb, 5, none⟩ = some (.slice Al m cl) := B4.out.cell 5
  have TL := Lib.hid (show (l ++ E).length = N4 by rw [List.length_append]; have := HLN.out; have := EL.out; have := HN2.out; have := HN4.out; omega)
  have TE := Lib.hid (show l ++ E = l ++ S ++ b by rw [EE.out, List.append_assoc])
  by_cases hq : N4 ≤ 65536
  · have Q := Lib.hid (show decide ((l ++ E).length ≤ 65536) = true by rw [decide_eq_true_eq, TL.out]; exact hq)
    have d6 : (N4 : Int) ≤ 65536 := by omega
    have FIN := Lib.hid (show w4.ownsRow base 5 1 (.slice A4 N4 c4) (l ++ E).length (bytesV (l ++ E)) by rw [TL.out, TE.out]; first | exact OW4.out | (rw [List.append_assoc]; exact OW4.out))
    clear hq
    by_cases hm0 : 0 < m
    · have hm1 : (0 : Int) < (m : Int) := by omega
      clear hm0
      go_wp2_with fail
      go_loopw [0, 7, 8] (fun ov okv iv wr => ov = .slice A4 N4 c4 ∧ okv = .bool true ∧ iv = .int .i64 0 ∧ wr = w4) (fun _ _ _ _ => 0)
      case atStart => exact ⟨rfl, rfl, rfl, rfl⟩
      case round =>
        obtain ⟨rfl, rfl, rfl, rfl⟩ := hrel
        go_wp2_with fail
        go_ret2
        rw [Q.out]
        exact ⟨⟨_, rfl, fun _ => ⟨FIN.out, LOC4.out⟩⟩, BEL4.out⟩
    · have hm1 : ¬ (0 : Int) < (m : Int) := by omega
      clear hm0
      go_wp2_with fail
      go_loopw [0, 7, 8] (fun ov okv iv wr => ov = .slice A4 N4 c4 ∧ okv = .bool true ∧ iv = .int .i64 0 ∧ wr = w4) (fun _ _ _ _ => 0)
      case atStart => exact ⟨rfl, rfl, rfl, rfl⟩
      case round =>
        obtain ⟨rfl, rfl, rfl, rfl⟩ := hrel
        go_wp2_with fail
        go_ret2
        rw [Q.out]
        exact ⟨⟨_, rfl, fun _ => ⟨FIN.out, LOC4.out⟩⟩, BEL4.out⟩
  · have Q := Lib.hid (show decide ((l ++ E).length ≤ 65536) = false by rw [decide_eq_false_iff_not, TL.out]; exact hq)
    have FIN := Lib.hid (fun h : (l ++ E).length ≤ 65536 => show w4.ownsRow base 5 1 (.slice A4 N4 c4) (l ++ E).length (bytesV (l ++ E)) by rw [TL.out, TE.out]; first | exact OW4.out | (rw [List.append_assoc]; exact OW4.out))
    have d6 : decide ((N4 : Int) ≤ 65536) = false := by rw [decide_eq_false_iff_not]; omega
    clear hq
    by_cases hm0 : 0 < m
    · have hm1 : (0 : Int) < (m : Int) := by omega
      clear hm0
      go_wp2_with fail
      go_loopw [0, 7, 8] (fun ov okv iv wr => ov = .slice A4 N4 c4 ∧ okv = .bool true ∧ iv = .int .i64 0 ∧ wr = w4) (fun _ _ _ _ => 0)
      case atStart => exact ⟨rfl, rfl, rfl, rfl⟩
      case round =>
        obtain ⟨rfl, rfl, rfl, rfl⟩ := hrel
        go_wp2_with fail
        go_ret2
        rw [Q.out]
        exact ⟨⟨_, rfl, fun h => ⟨FIN.out h, LOC4.out⟩⟩, BEL4.out⟩
    · have hm1 : ¬ (0 : Int) < (m : Int) := by omega
      clear hm0
      go_wp2_with fail
      go_loopw [0, 7, 8] (fun ov okv iv wr => ov = .slice A4 N4 c4 ∧ okv = .bool true ∧ iv = .int .i64 0 ∧ wr = w4) (fun _ _ _ _ => 0)
      case atStart => exact ⟨rfl, rfl, rfl, rfl⟩
      case round =>
        obtain ⟨rfl, rfl, rfl, rfl⟩ := hrel
        go_wp2_with fail
        go_ret2
        rw [Q.out]
        exact ⟨⟨_, rfl, fun h => ⟨FIN.out h, LOC4.out⟩⟩, BEL4.out⟩
set_option maxRecDepth 100000 in
set_option maxHeartbeats 3200000 in
theorem rb_k5 (i : Int) (b : List UInt8) (t : ByteArray) (ks : List ByteArray) (lx : List Tr) : RBOK (.mk 5 i b t ks lx) := by
  intro d w B base n v l cs hcan hv hB hbase own hl hn
  unfold HasV at hv
  obtain ⟨A0, n0, c0, Ak, ck, Al, cl, rfl, hkb, hib, ⟨hr, hn0, hA0⟩, ht, ⟨hks, hkl⟩, hll, hL⟩ := hv
  obtain ⟨A, c, rfl, f1, f2, f3⟩ := own_form own
  obtain ⟨wA, hA⟩ : ∃ wA, wA = w.alloc (.cells #[.int .i64 5, .int .i64 i, .slice A0 n0 c0, .string t, .slice Ak ks.length ck, .slice Al lx.length cl] 26) := ⟨_, rfl⟩
  have sA : Still w wA := by rw [hA]; exact (Still.refl w).alloc (Nat.le_refl _) _
  have bA : Blk wA w.heap.size 26 #[.int .i64 5, .int .i64 i, .slice A0 n0 c0, .string t, .slice Ak ks.length ck, .slice Al lx.length cl] := by rw [hA]; exact Blk.new _ _ _
  have OWA := Lib.hid (own_still own sA)
  have NG := Lib.hid (show (Value.slice A n c).ownBlock ≠ some w.heap.size from fun e => by have := (own.lt _ e).2; omega)
  have LOW := Lib.hid (show ∀ b, (Value.slice A n c).ownBlock = some b → base ≤ b from fun b e => (own.lt b e).1)
  have HA := Lib.hid hA
  have SA := Lib.hid sA
  have BA := Lib.hid bA
  have HBW := Lib.hid hB
  have HBASE := Lib.hid hbase
  have HLN := Lib.hid hl
  have HN := Lib.hid hn
  have HT := Lib.hid ht
  have HN0 := Lib.hid hn0
  have HR := Lib.hid hr
  have HA0 := Lib.hid hA0
  obtain ⟨gb, hgb⟩ : ∃ gb, gb = w.heap.size := ⟨_, rfl⟩
  have HGB := Lib.hid hgb
  rw [← hgb] at BA NG
  obtain ⟨m, hm⟩ : ∃ m, m = lx.length := ⟨_, rfl⟩
  have HM := Lib.hid hm
  rw [← hm] at BA HA ⊢
  have EE := Lib.hid (show encT (.mk 5 i b t ks lx) = szB 5 t.data.toList.length ++ t.data.toList by unfold encT; rw [if_neg (by decide), if_neg (by decide), if_neg (by decide), if_neg (by decide), if_neg (by decide), if_pos rfl]; rfl)
  have hnum : t.data.toList.length = t.size := by rw [Array.length_toList]; rfl
  rw [hnum] at EE
  obtain ⟨z, hz⟩ : ∃ z, z = t.size := ⟨_, rfl⟩
  have CNT := Lib.hid (fun W => rcounted_any 5 z (by omega) (by omega) W)
  have CNT' : Hid (∀ W, Calls Tryd.prog 38 #[.int .i64 (z : Int), .int .u8 160, .int .i64 31, .int .u8 217, .int .u8 218] W fun e w' => (∃ v, e = .returned v ∧ (if 65535 < z then v = .slice none 0 0 else w'.ownsRow W.heap.size 5 1 v (szB 5 z).length (bytesV (szB 5 z)))) ∧ Still W w') := CNT
  rw [← hz] at EE hnum
  have ZB := Lib.hid (show z ≤ 1048576 by omega)
  have HZ := Lib.hid hz
  have DL := Lib.hid hnum
  clear CNT hnum
  clear hA sA bA hB hbase own hl hn ht hn0 hr hA0 hgb hm hcan hkb hib hks hkl hll hL f1 f2 f3 hz
  obtain ⟨E, hE⟩ : ∃ E, E = encT (.mk 5 i b t ks lx) := ⟨_, rfl⟩
  rw [← hE] at EE ⊢
  clear hE
  go_enter Tryd.func20, Tryd.ntmps20
  go_upto_region 1 with fail
  rw [show (w.alloc (.cells #[.int .i64 5, .int .i64 i, .slice A0 n0 c0, .string t, .slice Ak ks.length ck, .slice Al m cl] 26)) = wA from HA.out.symm, ← HGB.out]
  have k0 : wA.cell? ⟨gb, 0, none⟩ = some (.int .i64 5) := BA.out.cell 0
  have k1 : wA.cell? ⟨gb, 1, none⟩ = some (.int .i64 i) := BA.out.cell 1
  have k2 : wA.cell? ⟨gb, 2, none⟩ = some (.slice A0 n0 c0) := BA.out.cell 2
  have k3 : wA.cell? ⟨gb, 3, none⟩ = some (.string t) := BA.out.cell 3
  have k5 : wA.cell? ⟨gb, 5, none⟩ = some (.slice Al m cl) := BA.out.cell 5
  have hzs : (t.size : Int) = (z : Int) := by rw [HZ.out]
  go_wp2_with fail
  refine (CNT'.out _).mono ?_
  rintro e w1 ⟨⟨v1, rfl, hv1⟩, s1⟩
  have S1 := Lib.hid s1
  clear s1 CNT'
  by_cases hbz : 65535 < z
  · rw [if_pos hbz] at hv1
    subst hv1
    have Q := Lib.hid (show decide ((l ++ E).length ≤ 65536) = false by
      rw [decide_eq_false_iff_not, List.length_append, EE.out, List.length_append, show (szB 5 z).length = 65537 by unfold szB; rw [if_pos hbz]; exact List.length_replicate]; omega)
    have Q2 := Lib.hid (show ¬ (l ++ E).length ≤ 65536 from of_decide_eq_false Q.out)
    have OW1 := Lib.hid (own_still OWA.out S1.out)
    have Z1 := Lib.hid (show base ≤ w1.heap.size from Nat.le_trans HBASE.out (Still.trans SA.out S1.out).size)
    have BEL1 := Lib.hid (show w.grownBy w1 (Value.slice A n c).ownBlock from grown_of_still (Still.trans SA.out S1.out))
    clear hbz k0 k1 k2 k3 k5
    go_wp2_with (at_builtin; go_must (refine wpList_adds_at w1 rfl (.tmp 49) (.tmp 50) rfl base (.slice A n c) n l (by kernel_rfl) OW1.out none 0 0 w1.heap.size [] (by kernel_rfl) Reads.nil0 (fun _ => rfl) (by have := HN.out; omega) Z1.out ?_))
    intro v2 w2 own2 gr2 loc2
    obtain ⟨A3, c3, rfl, q1, q2, q3⟩ := own_form own2
    have BEL2 := Lib.hid (show w.grownBy w2 (Value.slice A n c).ownBlock from grown_trans BEL1.out gr2)
    clear own2 gr2 loc2 q1 q2 q3
    go_wp2_with fail
    (try simp only [Exit.inBlock, Exit.then])
    go_ret2
    rw [Q.out]
    exact ⟨⟨_, rfl, fun h => absurd h Q2.out⟩, BEL2.out⟩
  rw [if_neg hbz] at hv1
  obtain ⟨S, hS⟩ : ∃ S, S = szB 5 z := ⟨_, rfl⟩
  have hsl : 0 < (szB 5 z).length := by unfold szB; rw [if_neg hbz]; simp
  have hsm : (szB 5 z).length ≤ 65536 := by unfold szB; rw [if_neg hbz]; have := numB_length (st 5 z) z; have := bh_le (st 5 z); simp; omega
  rw [← hS] at hv1 EE hsl hsm
  obtain ⟨L, hL⟩ : ∃ L, L = S.length := ⟨_, rfl⟩
  rw [← hL] at hv1 hsl hsm
  obtain ⟨A2, c2, rfl, q1, q2, q3⟩ := own_form hv1
  have RD := Lib.hid (show Reads w1 w1.heap.size A2 L S from Reads.of_own hv1)
  have NA := Lib.hid (fun e : A2 = none => (q3 e).2)
  have EL := Lib.hid (show E.length = L + z by rw [EE.out, List.length_append, ← hL, DL.out])
  have LB := Lib.hid hsm
  have dl : ¬ (L : Int) = 0 := by omega
  clear hv1 q1 q2 q3 hS hL hsl hsm hbz
  have OW1 := Lib.hid (own_still OWA.out S1.out)
  have B1 := Lib.hid (BA.out.still S1.out)
  have BEL1 := Lib.hid (show w.grownBy w1 (Value.slice A n c).ownBlock from grown_of_still (Still.trans SA.out S1.out))
  have Z1 := Lib.hid (show base ≤ w1.heap.size from Nat.le_trans HBASE.out (Still.trans SA.out S1.out).size)
  clear k0 k1 k2 k3 k5
  go_wp2_with (at_builtin; go_must (refine wpList_adds_at w1 rfl (.tmp 49) (.tmp 50) rfl base (.slice A n c) n l (by kernel_rfl) OW1.out A2 L c2 w1.heap.size S (by kernel_rfl) RD.out NA.out (by have := HN.out; have := LB.out; omega) Z1.out ?_))
  intro v2 w2 own2 gr2 loc2
  obtain ⟨A3, c3, rfl, q1, q2, q3⟩ := own_form own2
  clear q1 q2 q3
  obtain ⟨N2, hN2⟩ : ∃ N2, N2 = n + L := ⟨_, rfl⟩
  rw [← hN2] at own2 loc2 ⊢
  have HN2 := Lib.hid hN2
  clear hN2
  have OW2 := Lib.hid own2
  have B2 := Lib.hid (blk_grown B1.out gr2 NG.out)
  have BEL2 := Lib.hid (show w.grownBy w2 (Value.slice A n c).ownBlock from grown_trans BEL1.out gr2)
  have Z2 := Lib.hid (show base ≤ w2.heap.size from Nat.le_trans Z1.out gr2.size)
  have NG2 := Lib.hid (show (Value.slice A3 N2 c3).ownBlock ≠ some gb from fun e => by
    rcases loc2 with h | h
    · rw [h] at e; exact NG.out e
    · rw [h] at e; have := Option.some.inj e; have := B1.out.lt; omega)
  have LOC2 := Lib.hid (show ∀ b, (Value.slice A3 N2 c3).ownBlock = some b → (Value.slice A n c).ownBlock = some b ∨ w.heap.size ≤ b from fun b e => by
    rcases loc2 with h | h
    · rw [h] at e; exact .inl e
    · rw [h] at e; have := Option.some.inj e; have := (Still.trans SA.out S1.out).size; right; omega)
  have LOW2 := Lib.hid (show ∀ b, (Value.slice A3 N2 c3).ownBlock = some b → base ≤ b from fun b e => (OW2.out.lt b e).1)
  have GRZ := Lib.hid (show w1.heap.size ≤ w2.heap.size from gr2.size)
  clear own2 gr2 loc2 OW1 B1 BEL1 RD NA
  have k0 : w2.cell? ⟨gb, 0, none⟩ = some (.int .i64 5) := B2.out.cell 0
  have k2 : w2.cell? ⟨gb, 2, none⟩ = some (.slice A0 n0 c0) := B2.out.cell 2
  have k3 : w2.cell? ⟨gb, 3, none⟩ = some (.string t) := B2.out.cell 3
  have k5 : w2.cell? ⟨gb, 5, none⟩ = some (.slice Al m cl) := B2.out.cell 5
  by_cases hbig : 65536 < N2
  · have d5 : (65536 : Int) < (N2 : Int) := by omega
    have Q := Lib.hid (show decide ((l ++ E).length ≤ 65536) = false by rw [decide_eq_false_iff_not, List.length_append]; have := HLN.out; have := EL.out; have := HN2.out; omega)
    have Q2 := Lib.hid (show ¬ (l ++ E).length ≤ 65536 from of_decide_eq_false Q.out)
    clear hbig
    go_wp2_with fail
    (try simp only [Exit.inBlock, Exit.then])
    go_ret2
    rw [Q.out]
    exact ⟨⟨_, rfl, fun h => absurd h Q2.out⟩, BEL2.out⟩
  have d5 : ¬ (65536 : Int) < (N2 : Int) := by omega
  have HLE := Lib.hid (show N2 ≤ 65536 by omega)
  clear hbig
  go_wp2_with (at_builtin; go_must (refine app_text w2 rfl (.tmp 71) (.tmp 73) rfl base (.slice A3 N2 c3) N2 (l ++ S) (by kernel_rfl) OW2.out t (by kernel_rfl) (by have := HLE.out; have := ZB.out; have := HZ.out; omega) Z2.out ?_))
  intro v4 w4 own4 gr4 loc4
  rw [← HZ.out] at own4
  obtain ⟨A4, c4, rfl, q1, q2, q3⟩ := own_form own4
  clear q1 q2 q3
  obtain ⟨N4, hN4⟩ : ∃ N4, N4 = N2 + z := ⟨_, rfl⟩
  rw [← hN4] at own4 loc4 ⊢
  have HN4 := Lib.hid hN4
  clear hN4
  have OW4 := Lib.hid own4
  have B4 := Lib.hid (blk_grown B2.out gr4 NG2.out)
  have BEL4 := Lib.hid (grown_own BEL2.out gr4 LOC2.out)
  have LOC4 := Lib.hid (show ∀ b, (Value.slice A4 N4 c4).ownBlock = some b → (Value.slice A n c).ownBlock = some b ∨ w.heap.size ≤ b from fun b e => by
    rcases loc4 b e with h | h
    · exact LOC2.out b h
    · have := (Still.trans SA.out S1.out).size; have := GRZ.out; right; omega)
  clear loc4
  clear own4 gr4 k0 k2 k3 k5 d5
  have k0 : w4.cell? ⟨gb, 0, none⟩ = some (.int .i64 5) := B4.out.cell 0
  have k5 : w4.cell? ⟨gb, 5, none⟩ = some (.slice Al m cl) := B4.out.cell 5
  have TL := Lib.hid (show (l ++ E).length = N4 by rw [List.length_append]; have := HLN.out; have := EL.out; have := HN2.out; have := HN4.out; omega)
  have TE := Lib.hid (show l ++ E = l ++ S ++ t.data.toList by rw [EE.out, List.append_assoc])
  by_cases hq : N4 ≤ 65536
  · have Q := Lib.hid (show decide ((l ++ E).length ≤ 65536) = true by rw [decide_eq_true_eq, TL.out]; exact hq)
    have d6 : (N4 : Int) ≤ 65536 := by omega
    have FIN := Lib.hid (show w4.ownsRow base 5 1 (.slice A4 N4 c4) (l ++ E).length (bytesV (l ++ E)) by rw [TL.out, TE.out]; first | exact OW4.out | (rw [List.append_assoc]; exact OW4.out))
    clear hq
    by_cases hm0 : 0 < m
    · have hm1 : (0 : Int) < (m : Int) := by omega
      clear hm0
      go_wp2_with fail
      go_loopw [0, 7, 8] (fun ov okv iv wr => ov = .slice A4 N4 c4 ∧ okv = .bool true ∧ iv = .int .i64 0 ∧ wr = w4) (fun _ _ _ _ => 0)
      case atStart => exact ⟨rfl, rfl, rfl, rfl⟩
      case round =>
        obtain ⟨rfl, rfl, rfl, rfl⟩ := hrel
        go_wp2_with fail
        go_ret2
        rw [Q.out]
        exact ⟨⟨_, rfl, fun _ => ⟨FIN.out, LOC4.out⟩⟩, BEL4.out⟩
    · have hm1 : ¬ (0 : Int) < (m : Int) := by omega
      clear hm0
      go_wp2_with fail
      go_loopw [0, 7, 8] (fun ov okv iv wr => ov = .slice A4 N4 c4 ∧ okv = .bool true ∧ iv = .int .i64 0 ∧ wr = w4) (fun _ _ _ _ => 0)
      case atStart => exact ⟨rfl, rfl, rfl, rfl⟩
      case round =>
        obtain ⟨rfl, rfl, rfl, rfl⟩ := hrel
        go_wp2_with fail
        go_ret2
        rw [Q.out]
        exact ⟨⟨_, rfl, fun _ => ⟨FIN.out, LOC4.out⟩⟩, BEL4.out⟩
  · have Q := Lib.hid (show decide ((l ++ E).length ≤ 65536) = false by rw [decide_eq_false_iff_not, TL.out]; exact hq)
    have FIN := Lib.hid (fun h : (l ++ E).length ≤ 65536 => show w4.ownsRow base 5 1 (.slice A4 N4 c4) (l ++ E).length (bytesV (l ++ E)) by rw [TL.out, TE.out]; first | exact OW4.out | (rw [List.append_assoc]; exact OW4.out))
    have d6 : decide ((N4 : Int) ≤ 65536) = false := by rw [decide_eq_false_iff_not]; omega
    clear hq
    by_cases hm0 : 0 < m
    · have hm1 : (0 : Int) < (m : Int) := by omega
      clear hm0
      go_wp2_with fail
      go_loopw [0, 7, 8] (fun ov okv iv wr => ov = .slice A4 N4 c4 ∧ okv = .bool true ∧ iv = .int .i64 0 ∧ wr = w4) (fun _ _ _ _ => 0)
      case atStart => exact ⟨rfl, rfl, rfl, rfl⟩
      case round =>
        obtain ⟨rfl, rfl, rfl, rfl⟩ := hrel
        go_wp2_with fail
        go_ret2
        rw [Q.out]
        exact ⟨⟨_, rfl, fun h => ⟨FIN.out h, LOC4.out⟩⟩, BEL4.out⟩
    · have hm1 : ¬ (0 : Int) < (m : Int) := by omega
      clear hm0
      go_wp2_with fail
      go_loopw [0, 7, 8] (fun ov okv iv wr => ov = .slice A4 N4 c4 ∧ okv = .bool true ∧ iv = .int .i64 0 ∧ wr = w4) (fun _ _ _ _ => 0)
      case atStart => exact ⟨rfl, rfl, rfl, rfl⟩
      case round =>
        obtain ⟨rfl, rfl, rfl, rfl⟩ := hrel
        go_wp2_with fail
        go_ret2
        rw [Q.out]
        exact ⟨⟨_, rfl, fun h => ⟨FIN.out h, LOC4.out⟩⟩, BEL4.out⟩
end Go.Proofs.YtmjijajndeihaaaDoor

/- The document's own: a value's bytes; lists. It proves no statement. -/





namespace Go.Proofs.YtmjijajndeihaaaDoor
open Go.RowKit
set_option linter.unusedVariables false
set_option linter.unusedSimpArgs false

theorem canL_get : ∀ (l : List Tr) (d : Nat), canL d l = true → ∀ (j : Nat) (x : Tr), l[j]? = some x → canT d x = true
  | [], _, _, j, x, hx => by simp at hx
  | y :: r, d, h, 0, x, hx => by
    unfold canL at h
    simp only [List.getElem?_cons_zero, Option.some.injEq] at hx
    subst hx
    simp only [Bool.and_eq_true] at h
    exact h.1
  | y :: r, d, h, j + 1, x, hx => by
    unfold canL at h
    simp only [Bool.and_eq_true] at h
    exact canL_get r d h.2 j x (by simpa using hx)

set_option maxRecDepth 100000 in
set_option maxHeartbeats 3200000 in
theorem rb_k6 (i : Int) (b : List UInt8) (t : ByteArray) (ks : List ByteArray) (lx : List Tr) (IH : ∀ x ∈ lx, RBOK x) : RBOK (.mk 6 i b t ks lx) := by
  intro d w B base n v l cs hcan hv hB hbase own hl hn
  unfold HasV at hv
  obtain ⟨A0, n0, c0, Ak, ck, Al, cl, rfl, hkb, hib, ⟨hr, hn0, hA0⟩, ht, ⟨hks, hkl⟩, hll, hL⟩ := hv
  obtain ⟨A, c, rfl, f1, f2, f3⟩ := own_form own
  obtain ⟨wA, hA⟩ : ∃ wA, wA = w.alloc (.cells #[.int .i64 6, .int .i64 i, .slice A0 n0 c0, .string t, .slice Ak ks.length ck, .slice Al lx.length cl] 26) := ⟨_, rfl⟩
  have sA : Still w wA := by rw [hA]; exact (Still.refl w).alloc (Nat.le_refl _) _
  have bA : Blk wA w.heap.size 26 #[.int .i64 6, .int .i64 i, .slice A0 n0 c0, .string t, .slice Ak ks.length ck, .slice Al lx.length cl] := by rw [hA]; exact Blk.new _ _ _
  have OWA := Lib.hid (own_still own sA)
  have NG := Lib.hid (show (Value.slice A n c).ownBlock ≠ some w.heap.size from fun e => by have := (own.lt _ e).2; omega)
  have LOW := Lib.hid (show ∀ b, (Value.slice A n c).ownBlock = some b → base ≤ b from fun b e => (own.lt b e).1)
  have HA := Lib.hid hA
  have SA := Lib.hid sA
  have BA := Lib.hid bA
  have HBW := Lib.hid hB
  have HBASE := Lib.hid hbase
  have HLN := Lib.hid hl
  have HN := Lib.hid hn
  have HT := Lib.hid ht
  have HN0 := Lib.hid hn0
  have HR := Lib.hid hr
  have HA0 := Lib.hid hA0
  obtain ⟨gb, hgb⟩ : ∃ gb, gb = w.heap.size := ⟨_, rfl⟩
  have HGB := Lib.hid hgb
  rw [← hgb] at BA NG
  obtain ⟨m, hm⟩ : ∃ m, m = lx.length := ⟨_, rfl⟩
  have HM := Lib.hid hm
  rw [← hm] at BA HA ⊢
  have HLLL := Lib.hid hL
  have EE := Lib.hid (show encT (.mk 6 i b t ks lx) = szB 6 lx.length ++ encL 6 lx ks by unfold encT; rw [if_neg (by decide), if_neg (by decide), if_neg (by decide), if_neg (by decide), if_neg (by decide), if_neg (by decide)]; rfl)
  obtain ⟨z, hz⟩ : ∃ z, z = lx.length := ⟨_, rfl⟩
  have CNT := Lib.hid (fun W => rcounted_any 6 z (by omega) (by omega) W)
  have CNT' : Hid (∀ W, Calls Tryd.prog 38 #[.int .i64 (z : Int), .int .u8 144, .int .i64 15, .int .u8 0, .int .u8 220] W fun e w' => (∃ v, e = .returned v ∧ (if 65535 < z then v = .slice none 0 0 else w'.ownsRow W.heap.size 5 1 v (szB 6 z).length (bytesV (szB 6 z)))) ∧ Still W w') := CNT
  have hzm : z = m := by rw [hz, hm]
  rw [← hz] at EE
  have ZB := Lib.hid (show z ≤ 1048576 by omega)
  have HZ := Lib.hid hz
  have HZM := Lib.hid hzm
  obtain ⟨F, hF⟩ : ∃ F, F = encL 6 lx ks := ⟨_, rfl⟩
  have HF := Lib.hid hF
  rw [← hF] at EE
  have hcl2 : canL (d + 1) lx = true := by
    unfold canT at hcan
    simp only [Bool.and_eq_true, Bool.or_eq_true, decide_eq_true_eq] at hcan
    rcases hcan.2 with h | h
    · omega
    · exact h
  have HCL := Lib.hid (show canL (d + 1) lx = true from hcl2)
  clear CNT
  clear hA sA bA hB hbase own hl hn ht hn0 hr hA0 hgb hm hcan hkb hib hks hkl hll hL f1 f2 f3 hz hzm hF hcl2
  obtain ⟨E, hE⟩ : ∃ E, E = encT (.mk 6 i b t ks lx) := ⟨_, rfl⟩
  rw [← hE] at EE ⊢
  clear hE
  go_enter Tryd.func20, Tryd.ntmps20
  go_upto_region 1 with fail
  rw [show (w.alloc (.cells #[.int .i64 6, .int .i64 i, .slice A0 n0 c0, .string t, .slice Ak ks.length ck, .slice Al m cl] 26)) = wA from HA.out.symm, ← HGB.out]
  have k0 : wA.cell? ⟨gb, 0, none⟩ = some (.int .i64 6) := BA.out.cell 0
  have k1 : wA.cell? ⟨gb, 1, none⟩ = some (.int .i64 i) := BA.out.cell 1
  have k2 : wA.cell? ⟨gb, 2, none⟩ = some (.slice A0 n0 c0) := BA.out.cell 2
  have k3 : wA.cell? ⟨gb, 3, none⟩ = some (.string t) := BA.out.cell 3
  have k5 : wA.cell? ⟨gb, 5, none⟩ = some (.slice Al m cl) := BA.out.cell 5
  have hzs : (m : Int) = (z : Int) := by rw [HZM.out]
  go_wp2_with fail
  refine (CNT'.out _).mono ?_
  rintro e w1 ⟨⟨v1, rfl, hv1⟩, s1⟩
  have S1 := Lib.hid s1
  clear s1 CNT'
  by_cases hbz : 65535 < z
  · rw [if_pos hbz] at hv1
    subst hv1
    have Q := Lib.hid (show decide ((l ++ E).length ≤ 65536) = false by
      rw [decide_eq_false_iff_not, List.length_append, EE.out, List.length_append, show (szB 6 z).length = 65537 by unfold szB; rw [if_pos hbz]; exact List.length_replicate]; omega)
    have Q2 := Lib.hid (show ¬ (l ++ E).length ≤ 65536 from of_decide_eq_false Q.out)
    have OW1 := Lib.hid (own_still OWA.out S1.out)
    have Z1 := Lib.hid (show base ≤ w1.heap.size from Nat.le_trans HBASE.out (Still.trans SA.out S1.out).size)
    have BEL1 := Lib.hid (show w.grownBy w1 (Value.slice A n c).ownBlock from grown_of_still (Still.trans SA.out S1.out))
    clear hbz k0 k1 k2 k3 k5
    go_wp2_with (at_builtin; go_must (refine wpList_adds_at w1 rfl (.tmp 49) (.tmp 50) rfl base (.slice A n c) n l (by kernel_rfl) OW1.out none 0 0 w1.heap.size [] (by kernel_rfl) Reads.nil0 (fun _ => rfl) (by have := HN.out; omega) Z1.out ?_))
    intro v2 w2 own2 gr2 loc2
    obtain ⟨A3, c3, rfl, q1, q2, q3⟩ := own_form own2
    have BEL2 := Lib.hid (show w.grownBy w2 (Value.slice A n c).ownBlock from grown_trans BEL1.out gr2)
    clear own2 gr2 loc2 q1 q2 q3
    go_wp2_with fail
    (try simp only [Exit.inBlock, Exit.then])
    go_ret2
    first | rw [Q.out] | rw [← List.length_append, Q.out]
    exact ⟨⟨_, rfl, fun h => absurd h Q2.out⟩, BEL2.out⟩
  rw [if_neg hbz] at hv1
  obtain ⟨S, hS⟩ : ∃ S, S = szB 6 z := ⟨_, rfl⟩
  have hsl : 0 < (szB 6 z).length := by unfold szB; rw [if_neg hbz]; simp
  have hsm : (szB 6 z).length ≤ 65536 := by unfold szB; rw [if_neg hbz]; have := numB_length (st 6 z) z; have := bh_le (st 6 z); simp; omega
  rw [← hS] at hv1 EE hsl hsm
  obtain ⟨L, hL⟩ : ∃ L, L = S.length := ⟨_, rfl⟩
  rw [← hL] at hv1 hsl hsm
  obtain ⟨A2, c2, rfl, q1, q2, q3⟩ := own_form hv1
  have RD := Lib.hid (show Reads w1 w1.heap.size A2 L S from Reads.of_own hv1)
  have NA := Lib.hid (fun e : A2 = none => (q3 e).2)
  have EL := Lib.hid (show E.length = L + F.length by rw [EE.out, List.length_append, ← hL])
  have LB := Lib.hid hsm
  have dl : ¬ (L : Int) = 0 := by omega
  have SL := Lib.hid (show S.length = L from hL.symm)
  clear hv1 q1 q2 q3 hS hL hsl hsm hbz
  have OW1 := Lib.hid (own_still OWA.out S1.out)
  have B1 := Lib.hid (BA.out.still S1.out)
  have BEL1 := Lib.hid (show w.grownBy w1 (Value.slice A n c).ownBlock from grown_of_still (Still.trans SA.out S1.out))
  have Z1 := Lib.hid (show base ≤ w1.heap.size from Nat.le_trans HBASE.out (Still.trans SA.out S1.out).size)
  clear k0 k1 k2 k3 k5
  go_wp2_with (at_builtin; go_must (refine wpList_adds_at w1 rfl (.tmp 49) (.tmp 50) rfl base (.slice A n c) n l (by kernel_rfl) OW1.out A2 L c2 w1.heap.size S (by kernel_rfl) RD.out NA.out (by have := HN.out; have := LB.out; omega) Z1.out ?_))
  intro v2 w2 own2 gr2 loc2
  obtain ⟨A3, c3, rfl, q1, q2, q3⟩ := own_form own2
  clear q1 q2 q3
  obtain ⟨N2, hN2⟩ : ∃ N2, N2 = n + L := ⟨_, rfl⟩
  rw [← hN2] at own2 loc2 ⊢
  have HN2 := Lib.hid hN2
  clear hN2
  have OW2 := Lib.hid own2
  have B2 := Lib.hid (blk_grown B1.out gr2 NG.out)
  have BEL2 := Lib.hid (show w.grownBy w2 (Value.slice A n c).ownBlock from grown_trans BEL1.out gr2)
  have Z2 := Lib.hid (show base ≤ w2.heap.size from Nat.le_trans Z1.out gr2.size)
  have NG2 := Lib.hid (show (Value.slice A3 N2 c3).ownBlock ≠ some gb from fun e => by
    rcases loc2 with h | h
    · rw [h] at e; exact NG.out e
    · rw [h] at e; have := Option.some.inj e; have := B1.out.lt; omega)
  have LOC2 := Lib.hid (show ∀ b, (Value.slice A3 N2 c3).ownBlock = some b → (Value.slice A n c).ownBlock = some b ∨ w.heap.size ≤ b from fun b e => by
    rcases loc2 with h | h
    · rw [h] at e; exact .inl e
    · rw [h] at e; have := Option.some.inj e; have := (Still.trans SA.out S1.out).size; right; omega)
  have LOW2 := Lib.hid (show ∀ b, (Value.slice A3 N2 c3).ownBlock = some b → base ≤ b from fun b e => (OW2.out.lt b e).1)
  clear own2 gr2 loc2 OW1 B1 BEL1 RD NA
  have k0 : w2.cell? ⟨gb, 0, none⟩ = some (.int .i64 6) := B2.out.cell 0
  have k2 : w2.cell? ⟨gb, 2, none⟩ = some (.slice A0 n0 c0) := B2.out.cell 2
  have k3 : w2.cell? ⟨gb, 3, none⟩ = some (.string t) := B2.out.cell 3
  have k5 : w2.cell? ⟨gb, 5, none⟩ = some (.slice Al m cl) := B2.out.cell 5
  by_cases hbig : 65536 < N2
  · have d5 : (65536 : Int) < (N2 : Int) := by omega
    have Q := Lib.hid (show decide ((l ++ E).length ≤ 65536) = false by rw [decide_eq_false_iff_not, List.length_append]; have := HLN.out; have := EL.out; have := HN2.out; omega)
    have Q2 := Lib.hid (show ¬ (l ++ E).length ≤ 65536 from of_decide_eq_false Q.out)
    clear hbig
    go_wp2_with fail
    (try simp only [Exit.inBlock, Exit.then])
    go_ret2
    first | rw [Q.out] | rw [← List.length_append, Q.out]
    exact ⟨⟨_, rfl, fun h => absurd h Q2.out⟩, BEL2.out⟩
  have d5 : ¬ (65536 : Int) < (N2 : Int) := by omega
  have HLE := Lib.hid (show N2 ≤ 65536 by omega)
  clear hbig
  go_wp2_with fail
  go_loopw [0, 7, 8] (fun ov okv iv wr => ∃ j : Nat, j ≤ m ∧ okv = .bool true ∧ iv = .int .i64 j ∧ Hid (∃ (N : Nat) (P : List UInt8), wr.ownsRow base 5 1 ov N (bytesV P) ∧ P.length = N ∧ N ≤ 65536 ∧ Blk wr gb 26 #[.int .i64 6, .int .i64 i, .slice A0 n0 c0, .string t, .slice Ak ks.length ck, .slice Al m cl] ∧ w.grownBy wr (Value.slice A n c).ownBlock ∧ base ≤ wr.heap.size ∧ (∀ b, ov.ownBlock = some b → b ≠ gb ∧ ((Value.slice A n c).ownBlock = some b ∨ w.heap.size ≤ b)) ∧ l ++ E = P ++ encL 6 (lx.drop j) (ks.drop j))) (fun _ _ iv _ => m - (intOf iv).toNat)
  case atStart => exact ⟨0, by omega, rfl, rfl, N2, l ++ S, OW2.out, by rw [List.length_append]; have := HLN.out; have := HN2.out; have := SL.out; omega, HLE.out, B2.out, BEL2.out, Z2.out, (fun b e => ⟨fun e2 => NG2.out (by rw [e, e2]), LOC2.out b e⟩), by rw [EE.out, HF.out, List.append_assoc]; rfl⟩
  case round =>
    clear k0 k2 k3 k5
    obtain ⟨j, hj, rfl, rfl, N, P, ownP, hPl, hN65, hBk, hbel, hzb, hng, hE⟩ := hrel
    obtain ⟨Aj, cj, rfl, q1, q2, q3⟩ := own_form ownP
    clear q1 q2 q3
    have k0 : wr.cell? ⟨gb, 0, none⟩ = some (.int .i64 6) := hBk.cell 0
    have k5 : wr.cell? ⟨gb, 5, none⟩ = some (.slice Al m cl) := hBk.cell 5
    have OWP := Lib.hid ownP
    have HPL := Lib.hid hPl
    have HN65 := Lib.hid hN65
    have HBK := Lib.hid hBk
    have HBEL := Lib.hid hbel
    have HZB := Lib.hid hzb
    have HNG := Lib.hid hng
    have HE2 := Lib.hid hE
    clear ownP hPl hN65 hBk hbel hzb hng hE d5
    by_cases hlt : j < m
    · have d1 : (j : Int) < (m : Int) := by omega
      have d2 : (0 : Int) ≤ (j : Int) := by omega
      have d3 : (m : Int) ≤ 1048576 := by have := ZB.out; have := HZM.out; omega
      obtain ⟨gl, ol, rfl, hgl, hh⟩ := HLLL.out (by have := HM.out; omega)
      obtain ⟨x, hx⟩ : ∃ x, lx[j]? = some x := ⟨_, List.getElem?_eq_getElem (by rw [← HM.out]; exact hlt)⟩
      have bel : Below B w wr := Below.mono (Below.grown (Below.refl _ _) HBEL.out HBASE.out LOW.out) HBW.out
      obtain ⟨⟨ly⟩, hvx, hzx, hcx⟩ := HasL.at lx ol (HasL.below bel gl hgl ol lx hh) j x hx
      have RNG := Lib.hid (show wr.rangeAt gl (ol + j * 6) ly from fun q v hq => by
        have := hcx q v (by simpa using hq)
        rwa [show ol + 6 * j + q = ol + j * 6 + q by omega] at this)
      have LX := Lib.hid (show ly.length = 6 by simpa using hzx)
      have hcx1 : canT (d + 1) x = true := canL_get lx (d + 1) HCL.out j x hx
      have RB := Lib.hid (IH x (List.mem_of_getElem? hx) (d + 1) wr B base N (.slice Aj N cj) P ly.toArray hcx1 hvx HBW.out HZB.out OWP.out HPL.out HN65.out)
      have HEX := Lib.hid (show encL 6 (lx.drop j) (ks.drop j) = encT x ++ encL 6 (lx.drop (j + 1)) (ks.drop (j + 1)) by rw [drop_at lx j x hx, encL, if_neg (by decide), List.nil_append, List.tail_drop])
      have HLT := Lib.hid hlt
      obtain ⟨q, hq⟩ : ∃ q, q = decide ((P ++ encT x).length ≤ 65536) := ⟨_, rfl⟩
      rw [← hq] at RB
      have HQ := Lib.hid hq
      have TOT := Lib.hid (show l ++ E = (P ++ encT x) ++ encL 6 (lx.drop (j + 1)) (ks.drop (j + 1)) by rw [HE2.out, HEX.out, List.append_assoc])
      clear hlt hx hh hgl hvx hzx hcx bel hcx1 hq
      cases q
      · have Q2 := Lib.hid (show ¬ (l ++ E).length ≤ 65536 from fun h => by
          have h1 := of_decide_eq_false HQ.out.symm
          rw [TOT.out, List.length_append] at h
          omega)
        have Q := Lib.hid (show decide ((l ++ E).length ≤ 65536) = false from decide_eq_false Q2.out)
        go_wp2_with (first
          | (guard_target =~ wpList _ _ _ (Oper.mk (some 108) _ _ _ _ _ :: _) _ _; go_must (refine wpList_load_mid rfl 26 (.tmp 107) rfl gl (ol + j * 6) rfl ly _ RNG.out (Tryd.underlying26) rfl (by rw [sizeValue, LX.out]) ?_)))
        refine RB.out.mono ?_
        rintro e w5 ⟨⟨v5, rfl, _⟩, gr5⟩
        have GR5 := Lib.hid (grown_own HBEL.out gr5 (fun b e => (HNG.out b e).2))
        clear gr5
        go_wp2_with fail
        (try simp only [Exit.inBlock, Exit.then])
        go_ret2
        first | rw [Q.out] | rw [← List.length_append, Q.out]
        exact ⟨⟨_, rfl, fun h => absurd h Q2.out⟩, GR5.out⟩
      · go_wp2_with (first
          | (guard_target =~ wpList _ _ _ (Oper.mk (some 108) _ _ _ _ _ :: _) _ _; go_must (refine wpList_load_mid rfl 26 (.tmp 107) rfl gl (ol + j * 6) rfl ly _ RNG.out (Tryd.underlying26) rfl (by rw [sizeValue, LX.out]) ?_)))
        refine RB.out.mono ?_
        rintro e w5 ⟨⟨v5, rfl, hok⟩, gr5⟩
        have h65 : (P ++ encT x).length ≤ 65536 := of_decide_eq_true HQ.out.symm
        obtain ⟨own5, loc5⟩ := hok h65
        obtain ⟨A5, c5, rfl, q1, q2, q3⟩ := own_form own5
        clear q1 q2 q3 hok
        obtain ⟨N5, hN5⟩ : ∃ N5, N5 = (P ++ encT x).length := ⟨_, rfl⟩
        rw [← hN5] at own5 loc5 h65
        rw [← hN5]
        have B5 := Lib.hid (blk_grown HBK.out gr5 (fun e => (HNG.out gb e).1 rfl))
        have OW5 := Lib.hid own5
        have LOC5 := Lib.hid (show ∀ b, (Value.slice A5 N5 c5).ownBlock = some b → b ≠ gb ∧ ((Value.slice A n c).ownBlock = some b ∨ w.heap.size ≤ b) from fun b e => by
          rcases loc5 b e with h | h
          · exact HNG.out b h
          · have h1 := HBK.out.lt; have h2 := HBEL.out.size; exact ⟨by omega, .inr (by omega)⟩)
        have Z5 := Lib.hid (show base ≤ w5.heap.size from Nat.le_trans HZB.out gr5.size)
        have GR5 := Lib.hid (grown_own HBEL.out gr5 (fun b e => (HNG.out b e).2))
        have H65 := Lib.hid h65
        have HN5 := Lib.hid hN5
        clear own5 loc5 gr5 h65 hN5 k0 k5
        go_wp2_with fail
        go_roundw
        case rel => exact ⟨j + 1, by have := HLT.out; omega, rfl, by go_num, N5, P ++ encT x, OW5.out, HN5.out.symm, H65.out, B5.out, GR5.out, Z5.out, LOC5.out, TOT.out⟩
        case measure => simp [intOf]; have := HLT.out; omega
    · obtain rfl : j = m := by omega
      have hend : l ++ E = P := by rw [HE2.out, List.drop_of_length_le (by rw [HM.out]; omega), encL, List.append_nil]
      have Q := Lib.hid (show decide ((l ++ E).length ≤ 65536) = true by rw [hend, decide_eq_true_eq, HPL.out]; exact HN65.out)
      have FIN := Lib.hid (show wr.ownsRow base 5 1 (.slice Aj N cj) (l ++ E).length (bytesV (l ++ E)) by rw [hend, HPL.out]; exact OWP.out)
      have d6 : (N : Int) ≤ 65536 := by have := HN65.out; omega
      have d1 : ¬ (j : Int) < (j : Int) := by omega
      clear hend hlt
      go_wp2_with fail
      go_ret2
      first | rw [Q.out] | rw [← List.length_append, Q.out]
      exact ⟨⟨_, rfl, fun _ => ⟨FIN.out, fun b e => (HNG.out b e).2⟩⟩, HBEL.out⟩
end Go.Proofs.YtmjijajndeihaaaDoor

/- The document's own: a value's bytes; dicts. It proves no statement. -/





namespace Go.Proofs.YtmjijajndeihaaaDoor
open Go.RowKit
set_option linter.unusedVariables false
set_option linter.unusedSimpArgs false

set_option maxRecDepth 100000 in
set_option maxHeartbeats 3200000 in
theorem rb_k7 (i : Int) (b : List UInt8) (t : ByteArray) (ks : List ByteArray) (lx : List Tr) (IH : ∀ x ∈ lx, RBOK x) : RBOK (.mk 7 i b t ks lx) := by
  intro d w B base n v l cs hcan hv hB hbase own hl hn
  unfold HasV at hv
  obtain ⟨A0, n0, c0, Ak, ck, Al, cl, rfl, hkb, hib, ⟨hr, hn0, hA0⟩, ht, ⟨hks, hkl⟩, hll, hL⟩ := hv
  obtain ⟨A, c, rfl, f1, f2, f3⟩ := own_form own
  obtain ⟨wA, hA⟩ : ∃ wA, wA = w.alloc (.cells #[.int .i64 7, .int .i64 i, .slice A0 n0 c0, .string t, .slice Ak ks.length ck, .slice Al lx.length cl] 26) := ⟨_, rfl⟩
  have sA : Still w wA := by rw [hA]; exact (Still.refl w).alloc (Nat.le_refl _) _
  have bA : Blk wA w.heap.size 26 #[.int .i64 7, .int .i64 i, .slice A0 n0 c0, .string t, .slice Ak ks.length ck, .slice Al lx.length cl] := by rw [hA]; exact Blk.new _ _ _
  have OWA := Lib.hid (own_still own sA)
  have NG := Lib.hid (show (Value.slice A n c).ownBlock ≠ some w.heap.size from fun e => by have := (own.lt _ e).2; omega)
  have LOW := Lib.hid (show ∀ b, (Value.slice A n c).ownBlock = some b → base ≤ b from fun b e => (own.lt b e).1)
  have HA := Lib.hid hA
  have SA := Lib.hid sA
  have BA := Lib.hid bA
  have HBW := Lib.hid hB
  have HBASE := Lib.hid hbase
  have HLN := Lib.hid hl
  have HN := Lib.hid hn
  have HT := Lib.hid ht
  have HN0 := Lib.hid hn0
  have HR := Lib.hid hr
  have HA0 := Lib.hid hA0
  obtain ⟨gb, hgb⟩ : ∃ gb, gb = w.heap.size := ⟨_, rfl⟩
  have HGB := Lib.hid hgb
  rw [← hgb] at BA NG
  obtain ⟨m, hm⟩ : ∃ m, m = lx.length := ⟨_, rfl⟩
  have HM := Lib.hid hm
  rw [← hm] at BA HA ⊢
  have HLLL := Lib.hid hL
  obtain ⟨hksz, hkat⟩ := hks
  have HKZ := Lib.hid hksz
  have HKAT := Lib.hid hkat
  have EE := Lib.hid (show encT (.mk 7 i b t ks lx) = szB 7 lx.length ++ encL 7 lx ks by unfold encT; rw [if_neg (by decide), if_neg (by decide), if_neg (by decide), if_neg (by decide), if_neg (by decide), if_neg (by decide)]; rfl)
  obtain ⟨z, hz⟩ : ∃ z, z = lx.length := ⟨_, rfl⟩
  have CNT := Lib.hid (fun W => rcounted_any 7 z (by omega) (by omega) W)
  have CNT' : Hid (∀ W, Calls Tryd.prog 38 #[.int .i64 (z : Int), .int .u8 128, .int .i64 15, .int .u8 0, .int .u8 222] W fun e w' => (∃ v, e = .returned v ∧ (if 65535 < z then v = .slice none 0 0 else w'.ownsRow W.heap.size 5 1 v (szB 7 z).length (bytesV (szB 7 z)))) ∧ Still W w') := CNT
  have hzm : z = m := by rw [hz, hm]
  rw [← hz] at EE
  have ZB := Lib.hid (show z ≤ 1048576 by omega)
  have HZ := Lib.hid hz
  have HZM := Lib.hid hzm
  obtain ⟨F, hF⟩ : ∃ F, F = encL 7 lx ks := ⟨_, rfl⟩
  have HF := Lib.hid hF
  rw [← hF] at EE
  have hcl2 : canL (d + 1) lx = true := by
    unfold canT at hcan
    simp only [Bool.and_eq_true, Bool.or_eq_true, decide_eq_true_eq] at hcan
    rcases hcan.2 with h | h
    · omega
    · exact h
  have HCL := Lib.hid (show canL (d + 1) lx = true from hcl2)
  have hnk : ks.length = m := by
    unfold canT at hcan
    simp only [Bool.and_eq_true, Bool.or_eq_true, decide_eq_true_eq] at hcan
    rcases hcan.1.2 with h | h
    · exact absurd rfl h
    · rw [hm]; exact beq_iff_eq.mp h.1
  have HNK := Lib.hid hnk
  clear CNT
  clear hA sA bA hB hbase own hl hn ht hn0 hr hA0 hgb hm hcan hkb hib hksz hkat hnk hkl hll hL f1 f2 f3 hz hzm hF hcl2
  obtain ⟨E, hE⟩ : ∃ E, E = encT (.mk 7 i b t ks lx) := ⟨_, rfl⟩
  rw [← hE] at EE ⊢
  clear hE
  go_enter Tryd.func20, Tryd.ntmps20
  go_upto_region 1 with fail
  rw [show (w.alloc (.cells #[.int .i64 7, .int .i64 i, .slice A0 n0 c0, .string t, .slice Ak ks.length ck, .slice Al m cl] 26)) = wA from HA.out.symm, ← HGB.out]
  have k0 : wA.cell? ⟨gb, 0, none⟩ = some (.int .i64 7) := BA.out.cell 0
  have k1 : wA.cell? ⟨gb, 1, none⟩ = some (.int .i64 i) := BA.out.cell 1
  have k2 : wA.cell? ⟨gb, 2, none⟩ = some (.slice A0 n0 c0) := BA.out.cell 2
  have k3 : wA.cell? ⟨gb, 3, none⟩ = some (.string t) := BA.out.cell 3
  have k5 : wA.cell? ⟨gb, 5, none⟩ = some (.slice Al m cl) := BA.out.cell 5
  have hzs : (m : Int) = (z : Int) := by rw [HZM.out]
  go_wp2_with fail
  refine (CNT'.out _).mono ?_
  rintro e w1 ⟨⟨v1, rfl, hv1⟩, s1⟩
  have S1 := Lib.hid s1
  clear s1 CNT'
  by_cases hbz : 65535 < z
  · rw [if_pos hbz] at hv1
    subst hv1
    have Q := Lib.hid (show decide ((l ++ E).length ≤ 65536) = false by
      rw [decide_eq_false_iff_not, List.length_append, EE.out, List.length_append, show (szB 7 z).length = 65537 by unfold szB; rw [if_pos hbz]; exact List.length_replicate]; omega)
    have Q2 := Lib.hid (show ¬ (l ++ E).length ≤ 65536 from of_decide_eq_false Q.out)
    have OW1 := Lib.hid (own_still OWA.out S1.out)
    have Z1 := Lib.hid (show base ≤ w1.heap.size from Nat.le_trans HBASE.out (Still.trans SA.out S1.out).size)
    have BEL1 := Lib.hid (show w.grownBy w1 (Value.slice A n c).ownBlock from grown_of_still (Still.trans SA.out S1.out))
    clear hbz k0 k1 k2 k3 k5
    go_wp2_with (at_builtin; go_must (refine wpList_adds_at w1 rfl (.tmp 49) (.tmp 50) rfl base (.slice A n c) n l (by kernel_rfl) OW1.out none 0 0 w1.heap.size [] (by kernel_rfl) Reads.nil0 (fun _ => rfl) (by have := HN.out; omega) Z1.out ?_))
    intro v2 w2 own2 gr2 loc2
    obtain ⟨A3, c3, rfl, q1, q2, q3⟩ := own_form own2
    have BEL2 := Lib.hid (show w.grownBy w2 (Value.slice A n c).ownBlock from grown_trans BEL1.out gr2)
    clear own2 gr2 loc2 q1 q2 q3
    go_wp2_with fail
    (try simp only [Exit.inBlock, Exit.then])
    go_ret2
    first | rw [Q.out] | rw [← List.length_append, Q.out]
    exact ⟨⟨_, rfl, fun h => absurd h Q2.out⟩, BEL2.out⟩
  rw [if_neg hbz] at hv1
  obtain ⟨S, hS⟩ : ∃ S, S = szB 7 z := ⟨_, rfl⟩
  have hsl : 0 < (szB 7 z).length := by unfold szB; rw [if_neg hbz]; simp
  have hsm : (szB 7 z).length ≤ 65536 := by unfold szB; rw [if_neg hbz]; have := numB_length (st 7 z) z; have := bh_le (st 7 z); simp; omega
  rw [← hS] at hv1 EE hsl hsm
  obtain ⟨L, hL⟩ : ∃ L, L = S.length := ⟨_, rfl⟩
  rw [← hL] at hv1 hsl hsm
  obtain ⟨A2, c2, rfl, q1, q2, q3⟩ := own_form hv1
  have RD := Lib.hid (show Reads w1 w1.heap.size A2 L S from Reads.of_own hv1)
  have NA := Lib.hid (fun e : A2 = none => (q3 e).2)
  have EL := Lib.hid (show E.length = L + F.length by rw [EE.out, List.length_append, ← hL])
  have LB := Lib.hid hsm
  have dl : ¬ (L : Int) = 0 := by omega
  have SL := Lib.hid (show S.length = L from hL.symm)
  clear hv1 q1 q2 q3 hS hL hsl hsm hbz
  have OW1 := Lib.hid (own_still OWA.out S1.out)
  have B1 := Lib.hid (BA.out.still S1.out)
  have BEL1 := Lib.hid (show w.grownBy w1 (Value.slice A n c).ownBlock from grown_of_still (Still.trans SA.out S1.out))
  have Z1 := Lib.hid (show base ≤ w1.heap.size from Nat.le_trans HBASE.out (Still.trans SA.out S1.out).size)
  clear k0 k1 k2 k3 k5
  go_wp2_with (at_builtin; go_must (refine wpList_adds_at w1 rfl (.tmp 49) (.tmp 50) rfl base (.slice A n c) n l (by kernel_rfl) OW1.out A2 L c2 w1.heap.size S (by kernel_rfl) RD.out NA.out (by have := HN.out; have := LB.out; omega) Z1.out ?_))
  intro v2 w2 own2 gr2 loc2
  obtain ⟨A3, c3, rfl, q1, q2, q3⟩ := own_form own2
  clear q1 q2 q3
  obtain ⟨N2, hN2⟩ : ∃ N2, N2 = n + L := ⟨_, rfl⟩
  rw [← hN2] at own2 loc2 ⊢
  have HN2 := Lib.hid hN2
  clear hN2
  have OW2 := Lib.hid own2
  have B2 := Lib.hid (blk_grown B1.out gr2 NG.out)
  have BEL2 := Lib.hid (show w.grownBy w2 (Value.slice A n c).ownBlock from grown_trans BEL1.out gr2)
  have Z2 := Lib.hid (show base ≤ w2.heap.size from Nat.le_trans Z1.out gr2.size)
  have NG2 := Lib.hid (show (Value.slice A3 N2 c3).ownBlock ≠ some gb from fun e => by
    rcases loc2 with h | h
    · rw [h] at e; exact NG.out e
    · rw [h] at e; have := Option.some.inj e; have := B1.out.lt; omega)
  have LOC2 := Lib.hid (show ∀ b, (Value.slice A3 N2 c3).ownBlock = some b → (Value.slice A n c).ownBlock = some b ∨ w.heap.size ≤ b from fun b e => by
    rcases loc2 with h | h
    · rw [h] at e; exact .inl e
    · rw [h] at e; have := Option.some.inj e; have := (Still.trans SA.out S1.out).size; right; omega)
  have LOW2 := Lib.hid (show ∀ b, (Value.slice A3 N2 c3).ownBlock = some b → base ≤ b from fun b e => (OW2.out.lt b e).1)
  clear own2 gr2 loc2 OW1 B1 BEL1 RD NA
  have k0 : w2.cell? ⟨gb, 0, none⟩ = some (.int .i64 7) := B2.out.cell 0
  have k2 : w2.cell? ⟨gb, 2, none⟩ = some (.slice A0 n0 c0) := B2.out.cell 2
  have k3 : w2.cell? ⟨gb, 3, none⟩ = some (.string t) := B2.out.cell 3
  have k5 : w2.cell? ⟨gb, 5, none⟩ = some (.slice Al m cl) := B2.out.cell 5
  by_cases hbig : 65536 < N2
  · have d5 : (65536 : Int) < (N2 : Int) := by omega
    have Q := Lib.hid (show decide ((l ++ E).length ≤ 65536) = false by rw [decide_eq_false_iff_not, List.length_append]; have := HLN.out; have := EL.out; have := HN2.out; omega)
    have Q2 := Lib.hid (show ¬ (l ++ E).length ≤ 65536 from of_decide_eq_false Q.out)
    clear hbig
    go_wp2_with fail
    (try simp only [Exit.inBlock, Exit.then])
    go_ret2
    first | rw [Q.out] | rw [← List.length_append, Q.out]
    exact ⟨⟨_, rfl, fun h => absurd h Q2.out⟩, BEL2.out⟩
  have d5 : ¬ (65536 : Int) < (N2 : Int) := by omega
  have HLE := Lib.hid (show N2 ≤ 65536 by omega)
  clear hbig
  go_wp2_with fail
  go_loopw [0, 7, 8] (fun ov okv iv wr => ∃ j : Nat, j ≤ m ∧ okv = .bool true ∧ iv = .int .i64 j ∧ Hid (∃ (N : Nat) (P : List UInt8), wr.ownsRow base 5 1 ov N (bytesV P) ∧ P.length = N ∧ N ≤ 65536 ∧ Blk wr gb 26 #[.int .i64 7, .int .i64 i, .slice A0 n0 c0, .string t, .slice Ak ks.length ck, .slice Al m cl] ∧ w.grownBy wr (Value.slice A n c).ownBlock ∧ base ≤ wr.heap.size ∧ (∀ b, ov.ownBlock = some b → b ≠ gb ∧ ((Value.slice A n c).ownBlock = some b ∨ w.heap.size ≤ b)) ∧ l ++ E = P ++ encL 7 (lx.drop j) (ks.drop j))) (fun _ _ iv _ => m - (intOf iv).toNat)
  case atStart => exact ⟨0, by omega, rfl, rfl, N2, l ++ S, OW2.out, by rw [List.length_append]; have := HLN.out; have := HN2.out; have := SL.out; omega, HLE.out, B2.out, BEL2.out, Z2.out, (fun b e => ⟨fun e2 => NG2.out (by rw [e, e2]), LOC2.out b e⟩), by rw [EE.out, HF.out, List.append_assoc]; rfl⟩
  case round =>
    clear k0 k2 k3 k5
    obtain ⟨j, hj, rfl, rfl, N, P, ownP, hPl, hN65, hBk, hbel, hzb, hng, hE⟩ := hrel
    obtain ⟨Aj, cj, rfl, q1, q2, q3⟩ := own_form ownP
    clear q1 q2 q3
    have k0 : wr.cell? ⟨gb, 0, none⟩ = some (.int .i64 7) := hBk.cell 0
    have k5 : wr.cell? ⟨gb, 5, none⟩ = some (.slice Al m cl) := hBk.cell 5
    have k4 : wr.cell? ⟨gb, 4, none⟩ = some (.slice Ak ks.length ck) := hBk.cell 4
    have OWP := Lib.hid ownP
    have HPL := Lib.hid hPl
    have HN65 := Lib.hid hN65
    have HBK := Lib.hid hBk
    have HBEL := Lib.hid hbel
    have HZB := Lib.hid hzb
    have HNG := Lib.hid hng
    have HE2 := Lib.hid hE
    clear ownP hPl hN65 hBk hbel hzb hng hE d5
    by_cases hlt : j < m
    · have d1 : (j : Int) < (m : Int) := by omega
      have d2 : (0 : Int) ≤ (j : Int) := by omega
      have d3 : (m : Int) ≤ 1048576 := by have := ZB.out; have := HZM.out; omega
      obtain ⟨gl, ol, rfl, hgl, hh⟩ := HLLL.out (by have := HM.out; omega)
      obtain ⟨x, hx⟩ : ∃ x, lx[j]? = some x := ⟨_, List.getElem?_eq_getElem (by rw [← HM.out]; exact hlt)⟩
      have bel : Below B w wr := Below.mono (Below.grown (Below.refl _ _) HBEL.out HBASE.out LOW.out) HBW.out
      obtain ⟨⟨ly⟩, hvx, hzx, hcx⟩ := HasL.at lx ol (HasL.below bel gl hgl ol lx hh) j x hx
      have RNG := Lib.hid (show wr.rangeAt gl (ol + j * 6) ly from fun q v hq => by
        have := hcx q v (by simpa using hq)
        rwa [show ol + 6 * j + q = ol + j * 6 + q by omega] at this)
      have LX := Lib.hid (show ly.length = 6 by simpa using hzx)
      have GLB := Lib.hid hgl
      have hcx1 : canT (d + 1) x = true := canL_get lx (d + 1) HCL.out j x hx
      obtain ⟨ky, hky0⟩ : ∃ ky, ky = ks.getD j ByteArray.empty := ⟨_, rfl⟩
      have hky : (ks.drop j).headD ByteArray.empty = ky := by
        rw [hky0, List.headD_eq_head?_getD, List.head?_drop]; rfl
      obtain ⟨gk, ok, rfl, hgk, hck⟩ := HKAT.out (by have := HNK.out; omega)
      have ckey : wr.cell? ⟨gk, ok + j, none⟩ = some (.string ky) := by rw [hky0]; exact (bel.cell (p := ⟨gk, ok + j, none⟩) hgk).trans (hck j (by have := HNK.out; omega))
      have hkz : ky.size ≤ 1048576 := by
        rw [hky0]
        have hjk : j < ks.length := by have := HNK.out; omega
        refine HKZ.out _ ?_
        simp only [List.getD, List.getElem?_eq_getElem hjk, Option.getD_some]
        exact List.getElem_mem hjk
      obtain ⟨T, hT⟩ : ∃ T, T = txB ky.data.toList := ⟨_, rfl⟩
      have ekey : encT (.mk 5 0 [] ky [] []) = T := by rw [hT]; unfold encT; rw [if_neg (by decide), if_neg (by decide), if_neg (by decide), if_neg (by decide), if_neg (by decide), if_pos rfl]
      have RB0 := rb_k5 0 [] ky [] [] 1 wr B base N (.slice Aj N cj) P #[.int .i64 5, .int .i64 0, .slice none 0 0, .string ky, .slice none 0 0, .slice none 0 0] (by unfold canT; rfl) (by
        unfold HasV
        exact ⟨none, 0, 0, none, 0, none, 0, rfl, by omega, by omega, ⟨Reads.nil0, by omega, fun _ => rfl⟩, hkz, ⟨⟨fun s h => by simp at h, fun h => by simp at h⟩, by simp⟩, by simp, fun h => by simp at h⟩) (by have := HBW.out; omega) HZB.out OWP.out HPL.out HN65.out
      rw [ekey] at RB0
      have RBK := Lib.hid RB0
      have RBX := Lib.hid (fun (w6 : World) (A6 : Option Addr) (N6 c6 : Nat) (bel6 : Below B wr w6) (z6 : base ≤ w6.heap.size) (own6 : w6.ownsRow base 5 1 (.slice A6 N6 c6) N6 (bytesV (P ++ T))) (h6 : (P ++ T).length = N6) (h65 : N6 ≤ 65536) =>
        IH x (List.mem_of_getElem? hx) (d + 1) w6 B base N6 (.slice A6 N6 c6) (P ++ T) ly.toArray hcx1 (HasV.below bel6 x _ hvx) HBW.out z6 own6 h6 h65)
      have HEX := Lib.hid (show encL 7 (lx.drop j) (ks.drop j) = T ++ (encT x ++ encL 7 (lx.drop (j + 1)) (ks.drop (j + 1))) by rw [drop_at lx j x hx, encL, if_pos rfl, hky, hT, List.tail_drop])
      have HLT := Lib.hid hlt
      have CK := Lib.hid ckey
      have HGK := Lib.hid hgk
      have TOT := Lib.hid (show l ++ E = ((P ++ T) ++ encT x) ++ encL 7 (lx.drop (j + 1)) (ks.drop (j + 1)) by rw [HE2.out, HEX.out]; simp only [List.append_assoc])
      have hjn : (j : Int) < (ks.length : Int) := by have := HNK.out; omega
      obtain ⟨q, hq⟩ : ∃ q, q = decide ((P ++ T).length ≤ 65536) := ⟨_, rfl⟩
      rw [← hq] at RBK
      have HQ := Lib.hid hq
      clear hlt hx hh hgl hvx hzx hcx bel hcx1 hq RB0 ekey hT hkz hgk hck hky hky0
      cases q
      · have Q2 := Lib.hid (show ¬ (l ++ E).length ≤ 65536 from fun h => by
          have h1 := of_decide_eq_false HQ.out.symm
          rw [TOT.out, List.append_assoc, List.length_append] at h
          omega)
        have Q := Lib.hid (show decide ((l ++ E).length ≤ 65536) = false from decide_eq_false Q2.out)
        go_wp2_with fail
        refine RBK.out.mono ?_
        rintro e w5 ⟨⟨v5, rfl, _⟩, gr5⟩
        have GR5 := Lib.hid (grown_own HBEL.out gr5 (fun b e => (HNG.out b e).2))
        clear gr5
        go_wp2_with fail
        (try simp only [Exit.inBlock, Exit.then])
        go_ret2
        first | rw [Q.out] | rw [← List.length_append, Q.out]
        exact ⟨⟨_, rfl, fun h => absurd h Q2.out⟩, GR5.out⟩
      · go_wp2_with fail
        refine RBK.out.mono ?_
        rintro e w5 ⟨⟨v5, rfl, hok⟩, gr5⟩
        have h65 : (P ++ T).length ≤ 65536 := of_decide_eq_true HQ.out.symm
        obtain ⟨own5, loc5⟩ := hok h65
        obtain ⟨A5, c5, rfl, q1, q2, q3⟩ := own_form own5
        clear q1 q2 q3 hok
        obtain ⟨N5, hN5⟩ : ∃ N5, N5 = (P ++ T).length := ⟨_, rfl⟩
        rw [← hN5] at own5 loc5 h65
        rw [← hN5]
        have B5 := Lib.hid (blk_grown HBK.out gr5 (fun e => (HNG.out gb e).1 rfl))
        have OW5 := Lib.hid own5
        have LOC5 := Lib.hid (show ∀ b, (Value.slice A5 N5 c5).ownBlock = some b → b ≠ gb ∧ ((Value.slice A n c).ownBlock = some b ∨ w.heap.size ≤ b) from fun b e => by
          rcases loc5 b e with h | h
          · exact HNG.out b h
          · have h1 := HBK.out.lt; have h2 := HBEL.out.size; exact ⟨by omega, .inr (by omega)⟩)
        have Z5 := Lib.hid (show base ≤ w5.heap.size from Nat.le_trans HZB.out gr5.size)
        have GR5 := Lib.hid (grown_own HBEL.out gr5 (fun b e => (HNG.out b e).2))
        have LOWP := Lib.hid (show ∀ b, (Value.slice Aj N cj).ownBlock = some b → base ≤ b from fun b e => (OWP.out.lt b e).1)
        have BL5 := Lib.hid (show Below B wr w5 from Below.mono (Below.grown (Below.refl _ _) gr5 HZB.out LOWP.out) HBW.out)
        have HN5 := Lib.hid hN5
        have RX := Lib.hid (RBX.out w5 A5 N5 c5 BL5.out Z5.out own5 HN5.out.symm h65)
        have RNG5 := Lib.hid (show w5.rangeAt gl (ol + j * 6) ly from fun q v hq => (BL5.out.cell (p := ⟨gl, ol + j * 6 + q, none⟩) GLB.out).trans (RNG.out q v hq))
        have k0' : w5.cell? ⟨gb, 0, none⟩ = some (.int .i64 7) := B5.out.cell 0
        have k5' : w5.cell? ⟨gb, 5, none⟩ = some (.slice (some ⟨gl, ol, none⟩) m cl) := B5.out.cell 5
        obtain ⟨p, hp⟩ : ∃ p, p = decide (((P ++ T) ++ encT x).length ≤ 65536) := ⟨_, rfl⟩
        rw [← hp] at RX
        have HP := Lib.hid hp
        clear own5 loc5 gr5 h65 hN5 k0 k4 k5 ckey hp RBX RBK
        cases p
        · have Q2 := Lib.hid (show ¬ (l ++ E).length ≤ 65536 from fun h => by
            have h1 := of_decide_eq_false HP.out.symm
            rw [TOT.out, List.length_append] at h
            omega)
          have Q := Lib.hid (show decide ((l ++ E).length ≤ 65536) = false from decide_eq_false Q2.out)
          go_wp2_with (first
            | (guard_target =~ wpList _ _ _ (Oper.mk (some 108) _ _ _ _ _ :: _) _ _; go_must (refine wpList_load_mid rfl 26 (.tmp 107) rfl gl (ol + j * 6) rfl ly _ RNG5.out (Tryd.underlying26) rfl (by rw [sizeValue, LX.out]) ?_)))
          refine RX.out.mono ?_
          rintro e w7 ⟨⟨v7, rfl, _⟩, gr7⟩
          have GR7 := Lib.hid (grown_own GR5.out gr7 (fun b e => (LOC5.out b e).2))
          clear gr7
          go_wp2_with fail
          (try simp only [Exit.inBlock, Exit.then])
          go_ret2
          first | rw [Q.out] | rw [← List.length_append, Q.out]
          exact ⟨⟨_, rfl, fun h => absurd h Q2.out⟩, GR7.out⟩
        · go_wp2_with (first
            | (guard_target =~ wpList _ _ _ (Oper.mk (some 108) _ _ _ _ _ :: _) _ _; go_must (refine wpList_load_mid rfl 26 (.tmp 107) rfl gl (ol + j * 6) rfl ly _ RNG5.out (Tryd.underlying26) rfl (by rw [sizeValue, LX.out]) ?_)))
          refine RX.out.mono ?_
          rintro e w7 ⟨⟨v7, rfl, hok⟩, gr7⟩
          have h65 : ((P ++ T) ++ encT x).length ≤ 65536 := of_decide_eq_true HP.out.symm
          obtain ⟨own7, loc7⟩ := hok h65
          obtain ⟨A7, c7, rfl, q1, q2, q3⟩ := own_form own7
          clear q1 q2 q3 hok
          obtain ⟨N7, hN7⟩ : ∃ N7, N7 = ((P ++ T) ++ encT x).length := ⟨_, rfl⟩
          rw [← hN7] at own7 loc7 h65
          rw [← hN7]
          have B7 := Lib.hid (blk_grown B5.out gr7 (fun e => (LOC5.out gb e).1 rfl))
          have OW7 := Lib.hid own7
          have LOC7 := Lib.hid (show ∀ b, (Value.slice A7 N7 c7).ownBlock = some b → b ≠ gb ∧ ((Value.slice A n c).ownBlock = some b ∨ w.heap.size ≤ b) from fun b e => by
            rcases loc7 b e with h | h
            · exact LOC5.out b h
            · have h1 := B5.out.lt; have h2 := GR5.out.size; exact ⟨by omega, .inr (by omega)⟩)
          have Z7 := Lib.hid (show base ≤ w7.heap.size from Nat.le_trans Z5.out gr7.size)
          have GR7 := Lib.hid (grown_own GR5.out gr7 (fun b e => (LOC5.out b e).2))
          have H65 := Lib.hid h65
          have HN7 := Lib.hid hN7
          clear own7 loc7 gr7 h65 hN7 k0' k5'
          go_wp2_with fail
          go_roundw
          case rel => exact ⟨j + 1, by have := HLT.out; omega, rfl, by go_num, N7, (P ++ T) ++ encT x, OW7.out, HN7.out.symm, H65.out, B7.out, GR7.out, Z7.out, LOC7.out, TOT.out⟩
          case measure => simp [intOf]; have := HLT.out; omega
    · obtain rfl : j = m := by omega
      have hend : l ++ E = P := by rw [HE2.out, List.drop_of_length_le (by rw [HM.out]; omega), encL, List.append_nil]
      have Q := Lib.hid (show decide ((l ++ E).length ≤ 65536) = true by rw [hend, decide_eq_true_eq, HPL.out]; exact HN65.out)
      have FIN := Lib.hid (show wr.ownsRow base 5 1 (.slice Aj N cj) (l ++ E).length (bytesV (l ++ E)) by rw [hend, HPL.out]; exact OWP.out)
      have d6 : (N : Int) ≤ 65536 := by have := HN65.out; omega
      have d1 : ¬ (j : Int) < (j : Int) := by omega
      clear hend hlt
      go_wp2_with fail
      go_ret2
      first | rw [Q.out] | rw [← List.length_append, Q.out]
      exact ⟨⟨_, rfl, fun _ => ⟨FIN.out, fun b e => (HNG.out b e).2⟩⟩, HBEL.out⟩
end Go.Proofs.YtmjijajndeihaaaDoor

/- The document's own Encode. It proves no statement. -/

namespace Go.Proofs.YtmjijajndeihaaaDoor
open Go.RowKit
set_option linter.unusedVariables false
set_option linter.unusedSimpArgs false

theorem rbOK : ∀ (x : Tr), RBOK x
  | .mk k i b t ks l => by
    have IH : ∀ x ∈ l, RBOK x := fun x hx => rbOK x
    by_cases h0 : k = 0
    · subst h0; exact rb_k0 i b t ks l
    by_cases h1 : k = 1
    · subst h1; exact rb_k1 i b t ks l
    by_cases h2 : k = 2
    · subst h2; exact rb_k2 i b t ks l
    by_cases h3 : k = 3
    · subst h3; exact rb_k3 i b t ks l
    by_cases h4 : k = 4
    · subst h4; exact rb_k4 i b t ks l
    by_cases h5 : k = 5
    · subst h5; exact rb_k5 i b t ks l
    by_cases h6 : k = 6
    · subst h6; exact rb_k6 i b t ks l IH
    by_cases h7 : k = 7
    · subst h7; exact rb_k7 i b t ks l IH
    intro d w B base n v l' cs hcan
    unfold canT at hcan
    simp only [Bool.and_eq_true, Bool.or_eq_true, decide_eq_true_eq] at hcan
    omega

set_option maxRecDepth 100000 in
set_option maxHeartbeats 1600000 in
theorem rencode_any (t : Tr) (cs : Array Value) (w : World) (B : Nat) (h : HasV w B t cs) (hB : B ≤ w.heap.size) :
    Calls Tryd.prog 7 #[.agg cs] w fun e w' => (∃ v, e = .returned (.tuple #[v, .int .i64 (encR t).2]) ∧ w'.ownsRow w.heap.size 5 1 v (encR t).1.length (bytesV (encR t).1)) ∧ Still w w' := by
  obtain ⟨lx⟩ := cs
  have hz : lx.length = 6 := by have := h.size; simpa using this
  obtain ⟨wA, hA⟩ : ∃ wA, wA = w.alloc (.cells lx.toArray 26) := ⟨_, rfl⟩
  have sA : Still w wA := by rw [hA]; exact (Still.refl w).alloc (Nat.le_refl _) _
  have bA : Blk wA w.heap.size 26 lx.toArray := by rw [hA]; exact Blk.new _ _ _
  have CAN := Lib.hid (rcan_any 1 (by omega) t wA B lx.toArray (HasV.below (Below.mono sA hB) t _ h) (Nat.le_trans hB sA.size))
  have CAN' : Hid (Calls Tryd.prog 19 #[.agg lx.toArray, .int .i64 1] wA fun e w' => e = .returned (.bool (canT 1 t)) ∧ Still wA w') := CAN
  clear CAN
  obtain ⟨fs, hu⟩ := underValue
  have HU := Lib.hid hu
  have SA := Lib.hid sA
  have BA := Lib.hid bA
  have HA := Lib.hid hA
  have HZ := Lib.hid hz
  have HH := Lib.hid h
  have HBW := Lib.hid hB
  clear sA bA hA hz hu h hB
  have HQ := Lib.hid (encR_eq t)
  cases hc : canT 1 t
  · have e : encR t = ([], 4) := by rw [HQ.out, if_pos hc]
    rw [hc] at CAN'
    have HE := Lib.hid e
    clear e hc
    go_enter Tryd.func7, Tryd.ntmps7
    go_upto_region 0 with fail
    refine wp_region_lit ?_
    refine wpList_box_arr rfl 26 (.tmp 0) rfl (some 1) rfl _ rfl ?_
    rw [← HA.out]
    go_upto_region 1 with fail
    refine wp_region_lit ?_
    refine wpList_load_row rfl 26 (.tmp 1) rfl w.heap.size rfl _ _ _ _ BA.out HU.out rfl (by rw [sizeValue]; simp [HZ.out]) ?_
    go_wp2_with fail
    refine CAN'.out.mono ?_
    rintro e w1 ⟨rfl, s1⟩
    have S1 := Lib.hid (SA.out.trans s1)
    clear s1
    go_wp2_with fail
    (try simp only [Exit.inBlock, Exit.then])
    go_ret2
    rw [HE.out]
    exact ⟨⟨_, rfl, World.ownsRow_nil _ _ _ _⟩, S1.out⟩
  · have RB := Lib.hid (fun (W : World) (s : Still w W) => rbOK t 1 W B W.heap.size 0 (.slice none 0 0) [] lx.toArray hc (HasV.below (Below.mono s HBW.out) t _ HH.out) (Nat.le_trans HBW.out s.size) (Nat.le_refl _) (World.ownsRow_nil _ _ _ _) rfl (by omega))
    simp only [List.nil_append] at RB
    have hq : encR t = if 65536 < (encT t).length then ([], 5) else (encT t, 0) := by rw [HQ.out, if_neg (by rw [hc]; decide)]
    rw [hc] at CAN'
    obtain ⟨E, hE⟩ : ∃ E, E = encT t := ⟨_, rfl⟩
    rw [← hE] at hq
    have RB2 : Hid (∀ (W : World), Still w W → Calls Tryd.prog 20 #[.slice none 0 0, .agg lx.toArray] W fun e w' => (∃ v', e = .returned (.tuple #[v', .bool (decide (E.length ≤ 65536))]) ∧ (E.length ≤ 65536 → w'.ownsRow W.heap.size 5 1 v' E.length (bytesV E))) ∧ Still W w') := Lib.hid fun W s => by
      rw [hE]
      refine (RB.out W s).mono ?_
      rintro e w' ⟨⟨v', h1, h2⟩, h3⟩
      exact ⟨⟨v', h1, fun h => (h2 h).1⟩, Below.grown (Below.refl _ _) h3 (Nat.le_refl _) (fun b e => by cases e)⟩
    clear RB hc hE HQ
    go_enter Tryd.func7, Tryd.ntmps7
    go_upto_region 0 with fail
    refine wp_region_lit ?_
    refine wpList_box_arr rfl 26 (.tmp 0) rfl (some 1) rfl _ rfl ?_
    rw [← HA.out]
    go_upto_region 1 with fail
    refine wp_region_lit ?_
    refine wpList_load_row rfl 26 (.tmp 1) rfl w.heap.size rfl _ _ _ _ BA.out HU.out rfl (by rw [sizeValue]; simp [HZ.out]) ?_
    go_wp2_with fail
    refine CAN'.out.mono ?_
    rintro e w1 ⟨rfl, s1⟩
    have S1 := Lib.hid (SA.out.trans s1)
    have B1 := Lib.hid (BA.out.still s1)
    clear s1 CAN' BA
    have RC := Lib.hid (RB2.out w1 S1.out)
    clear RB2
    obtain ⟨q, hq2⟩ : ∃ q, q = decide (E.length ≤ 65536) := ⟨_, rfl⟩
    rw [← hq2] at RC
    have HQ2 := Lib.hid hq2
    have HQ1 := Lib.hid hq
    clear hq2 hq
    go_upto_region 3 with fail
    refine wp_region_lit ?_
    refine wpList_load_row rfl 26 (.tmp 1) rfl w.heap.size rfl _ _ _ _ B1.out HU.out rfl (by rw [sizeValue]; simp [HZ.out]) ?_
    cases q
    · have hlt : ¬ E.length ≤ 65536 := of_decide_eq_false HQ2.out.symm
      have HE := Lib.hid (show encR t = ([], 5) by rw [HQ1.out, if_pos (by omega)])
      clear hlt
      go_wp2_with fail
      refine RC.out.mono ?_
      rintro e w3 ⟨⟨v3, rfl, _⟩, s3⟩
      have S3 := Lib.hid (S1.out.trans s3)
      clear s3
      go_wp2_with fail
      (try simp only [Exit.inBlock, Exit.then])
      go_ret2
      rw [HE.out]
      exact ⟨⟨_, rfl, World.ownsRow_nil _ _ _ _⟩, S3.out⟩
    · have hlt : E.length ≤ 65536 := of_decide_eq_true HQ2.out.symm
      have HE := Lib.hid (show encR t = (E, 0) by rw [HQ1.out, if_neg (by omega)])
      have HL := Lib.hid hlt
      clear hlt
      go_wp2_with fail
      refine RC.out.mono ?_
      rintro e w3 ⟨⟨v3, rfl, own3⟩, s3⟩
      have S3 := Lib.hid (S1.out.trans s3)
      have O3 := Lib.hid (own_rebase (own3 HL.out) S1.out.size)
      clear s3 own3
      go_wp2_with fail
      go_ret2
      rw [HE.out]
      exact ⟨⟨_, rfl, O3.out⟩, S3.out⟩
end Go.Proofs.YtmjijajndeihaaaDoor
