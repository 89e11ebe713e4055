/- slices.Concat of a few rows of bytes. It proves no statement. -/
import Derived.Test.YtnhkabohccbglaaDoorAdds
import Derived.Test.YtnhkabohccbglaaDoorBlk
import Derived.Test.YtnhkabohccbglaaDoorSame
import Derived.Lib.AppendZerosOnto
import Derived.Great.Walk
namespace Go.Proofs.YtnhkabohccbglaaDoor
open Go.RowKit
set_option linter.unusedVariables false
set_option linter.unusedSimpArgs false

theorem run_grow (w : World) (ty : TypeId) (k : Nat) (h0 : 0 < k) (hk : k ≤ 1048576) :
    ∃ cap cur, (Builtin.append_ #[24, 3] ty #[.slice none 0 0, .int .i64 (k : Int)]).run Tryd.prog w = .ok (.slice (some ⟨w.heap.size, 0, none⟩) k cap) (w.drew.alloc (.cells cur 5)) ∧ k ≤ cap ∧ cap ≤ maxLen ∧ cur.size = cap := by
  obtain ⟨i0, hi, hz0, hz1, hz2⟩ := info_parts Tryd.infoByte
  have h := Lib.run_append_grow_zeros (P := Tryd.prog) w 24 3 ty 5 i0 (.int .u8 0) .i64 .i64 Tryd.underlying24 Tryd.underlying3 hi hz0 none 0 0 [] (run_firstCells_none w.drew i0.size 0 0 0) k h0 (by rw [hz1]; decide) (by omega) (by omega) (by rw [hz2]; omega) (by
    rw [hz2, Nat.zero_add, nextslicecap_zero h0]; omega)
  rw [Nat.zero_add] at h
  have hg := grownCap_ge w k 0 5
  have hl := grownCap_le_maxLen w k 0 5 (by unfold maxLen; omega)
  refine ⟨_, _, h, hg, hl, ?_⟩
  simp only [List.toArray, Array.size_append, size_zeroCells, Value.cells]
  simp
  omega
set_option maxRecDepth 100000 in
set_option maxHeartbeats 1600000 in
theorem grow_any (k : Nat) (w : World) (h0 : 0 < k) (hk : k ≤ 1048576) :
    Calls Tryd.prog 44 #[.slice none 0 0, .int .i64 (k : Int)] w fun e w' => (∃ v, e = .returned v ∧ w'.ownsRow w.heap.size 5 1 v 0 []) ∧ Still w w' := by
  obtain ⟨cap, cur, hrun, h1, h2, h3⟩ := run_grow w 24 k h0 hk
  have d1 : ¬ ((k : Int) < 0) := by omega
  have d2 : (0 : Int) < (k : Int) := by omega
  have d3 : IntKind.i64.wrap (k : Int) = (k : Int) := by rw [IntKind.wrap_i64]; omega
  have d4 : (0 : Int) ≤ (cap : Int) := by omega
  have d5 : 0 < k := h0
  have HR := Lib.hid hrun
  have FIN := Lib.hid (show (w.drew.alloc (.cells cur 5)).ownsRow w.heap.size 5 1 (.slice (some ⟨w.heap.size, 0, none⟩) 0 cap) 0 [] ∧ Still w (w.drew.alloc (.cells cur 5)) from
    ⟨⟨rfl, .inr ⟨w.heap.size, cap, cur, rfl, Nat.le_refl _, by rw [show w.heap.size = w.drew.heap.size from rfl]; exact heap_alloc_new _ _, Nat.zero_le _, h2, by omega, by simp⟩⟩, ((Still.refl w).drew).alloc (Nat.le_refl _) _⟩)
  clear hrun h1 h2 h3 h0 hk
  go_enter Tryd.func44, Tryd.ntmps44
  go_wp2_with (guard_target =~ wpList _ _ _ (Oper.mk (some 22) _ _ _ _ _ :: _) _ _; go_must (refine Go.Great.wpList_runTo rfl (some 22) rfl (.slice (some ⟨w.heap.size, 0, none⟩) k cap) (w.drew.alloc (.cells cur 5)) (by simp only [execOp, resolve, invoke, builtin, Sem.run_bind, Sem.run_pure, Result.andThen_ok, List.map_toArray, List.map_cons, List.map_nil]; change (Sem.run _ (Builtin.append_ _ _ #[.slice none 0 0, .int .i64 (k : Int)]) w).andThen _ = _; rw [HR.out]; rfl) ?_))
  go_ret
  exact ⟨⟨_, rfl, FIN.out.1⟩, FIN.out.2⟩
/-- Rows of bytes, side by side in a block. -/
def PartsIn (w : World) (B gp : Nat) (ls : List (List UInt8)) : Prop := gp < B ∧ ∀ i, i < ls.length → ∃ A n c, w.cell? ⟨gp, i, none⟩ = some (.slice A n c) ∧ Reads w B A n (ls.getD i []) ∧ (A = none → c = 0)
theorem PartsIn.still {w w' : World} {B gp : Nat} {ls : List (List UInt8)} (h : PartsIn w B gp ls) (hB : B ≤ w.heap.size) (s : Still w w') : PartsIn w' B gp ls :=
  ⟨h.1, fun i hi => by
    obtain ⟨A, n, c, h1, h2, h3⟩ := h.2 i hi
    exact ⟨A, n, c, (s.cell (p := ⟨gp, i, none⟩) (Nat.lt_of_lt_of_le h.1 hB)).trans h1, h2.still hB s, h3⟩⟩
theorem flat_step (ls : List (List UInt8)) (j : Nat) (h : j < ls.length) : (ls.take (j + 1)).flatten = (ls.take j).flatten ++ ls.getD j [] := by
  have e : ls.take (j + 1) = ls.take j ++ [ls[j]] := by rw [List.take_add_one, List.getElem?_eq_getElem h]; rfl
  rw [e, List.flatten_append]
  simp only [List.flatten_cons, List.flatten_nil, List.append_nil, List.getD, List.getElem?_eq_getElem h, Option.getD_some]
theorem flat_le (ls : List (List UInt8)) (j : Nat) : (ls.take j).flatten.length ≤ ls.flatten.length := by
  have h := congrArg (fun q => (List.flatten q).length) (List.take_append_drop j ls)
  simp only [List.flatten_append, List.length_append] at h
  omega
set_option maxRecDepth 100000 in
set_option maxHeartbeats 1600000 in
theorem concat_any (gp c : Nat) (ls : List (List UInt8)) (w : World) (B : Nat) (hp : PartsIn w B gp ls) (hB : B ≤ w.heap.size) (hm : ls.length ≤ 16) (h0 : 0 < ls.flatten.length) (ht : ls.flatten.length ≤ 1048576) :
    Calls Tryd.prog 31 #[.slice (some ⟨gp, 0, none⟩) ls.length c] w fun e w' => (∃ v, e = .returned v ∧ w'.ownsRow w.heap.size 5 1 v ls.flatten.length (bytesV ls.flatten)) ∧ Still w w' := by
  obtain ⟨m, hmm⟩ : ∃ m, m = ls.length := ⟨_, rfl⟩
  rw [← hmm]
  have d1 : (m : Int) ≤ 16 := by omega
  obtain ⟨T, hT⟩ : ∃ T, T = ls.flatten.length := ⟨_, rfl⟩
  have GR := Lib.hid (grow_any T w (by omega) (by omega))
  have HP := Lib.hid hp
  have HB := Lib.hid hB
  have HT := Lib.hid hT
  have HTT := Lib.hid (show T ≤ 1048576 by omega)
  have HM := Lib.hid hmm
  clear hp hB hm h0 ht hT hmm
  go_enter Tryd.func31, Tryd.ntmps31
  go_wp2_with fail
  go_loopw [3, 11] (fun sv iv wr => ∃ j : Nat, j ≤ m ∧ iv = .int .i64 j ∧ wr = w ∧ sv = .int .i64 ((ls.take j).flatten.length : Nat)) (fun _ iv _ => m - (intOf iv).toNat)
  case atStart => exact ⟨0, by omega, rfl, rfl, by simp⟩
  case round =>
    obtain ⟨j, hj, rfl, hw, rfl⟩ := hrel
    have hw' := hw.symm
    subst hw'
    clear hw
    by_cases hlt : j < m
    · obtain ⟨A, n, cc, hc, hr, _⟩ := HP.out.2 j (by rw [← HM.out]; exact hlt)
      have hc0 : w.cell? ⟨gp, 0 + j, none⟩ = some (.slice A n cc) := by rw [Nat.zero_add]; exact hc
      have hs := congrArg List.length (flat_step ls j (by rw [← HM.out]; exact hlt))
      rw [List.length_append, hr.1] at hs
      have hle := flat_le ls (j + 1)
      rw [← HT.out] at hle
      obtain ⟨s, hse⟩ : ∃ s, s = (ls.take j).flatten.length := ⟨_, rfl⟩
      rw [← hse] at hs ⊢
      have d2 : (j : Int) < (m : Int) := by omega
      have d3 : (0 : Int) ≤ (j : Int) := by omega
      have d4 : (s : Int) + (n : Int) ≤ 1048576 := by have := HTT.out; omega
      have d5 : (0 : Int) ≤ (s : Int) + (n : Int) := by omega
      have d6 : IntKind.i64.wrap ((s : Int) + (n : Int)) = ((s + n : Nat) : Int) := by rw [IntKind.wrap_i64]; omega
      have d7 : ¬ (((s + n : Nat) : Int) < 0) := by omega
      have HS := Lib.hid hs
      have HLT := Lib.hid hlt
      clear hse hs hle hlt hr
      go_wp2_with fail
      go_roundw
      case rel => exact ⟨j + 1, by have := HLT.out; omega, by go_num, by first | trivial | rfl, by have h := HS.out; first | omega | (go_num; done) | (rw [h]; rfl)⟩
      case measure => simp [intOf]; have := HLT.out; omega
    · obtain rfl : j = m := by omega
      have e : (ls.take j).flatten.length = T := by rw [HT.out, HM.out, List.take_length]
      rw [e]
      clear e hlt
      go_wp2_with fail
      refine GR.out.mono ?_
      rintro e w1 ⟨⟨v, rfl, own1⟩, s1⟩
      have OW := Lib.hid own1
      have S1 := Lib.hid s1
      clear own1 s1 GR
      go_wp2_with fail
      go_loopw [6, 27] (fun vv iv wr => ∃ i : Nat, i ≤ j ∧ iv = .int .i64 i ∧ Hid (wr.ownsRow w.heap.size 5 1 vv ((ls.take i).flatten.length) (bytesV (ls.take i).flatten) ∧ Still w wr)) (fun _ iv _ => j - (intOf iv).toNat)
      case atStart => exact ⟨0, by omega, rfl, by simpa [bytesV] using OW.out, S1.out⟩
      case round =>
        obtain ⟨i, hi, rfl, hin⟩ := hrel
        by_cases hlt : i < j
        · obtain ⟨A, n, cc, hc, hr, hA⟩ := (HP.out.still HB.out hin.out.2).2 i (by rw [← HM.out]; exact hlt)
          have hc0 : wr.cell? ⟨gp, 0 + i, none⟩ = some (.slice A n cc) := by rw [Nat.zero_add]; exact hc
          have hst := flat_step ls i (by rw [← HM.out]; exact hlt)
          have hle := flat_le ls (i + 1)
          have hs := congrArg List.length hst
          rw [List.length_append, hr.1] at hs
          rw [← HT.out] at hle
          have d2 : (i : Int) < (j : Int) := by omega
          have d3 : (0 : Int) ≤ (i : Int) := by omega
          have HS := Lib.hid hs
          have HST := Lib.hid hst
          have HLE := Lib.hid (show (ls.take i).flatten.length + n ≤ 1048576 by have := HTT.out; omega)
          have HLT := Lib.hid hlt
          have HR := Lib.hid hr
          have HA := Lib.hid hA
          clear hst hs hle hlt hr hA hc0
          go_wp2_with (at_builtin; go_must (refine wpList_adds_at wr rfl (.tmp 31) (.tmp 32) rfl w.heap.size _ _ _ rfl hin.out.1 A n cc B _ rfl HR.out HA.out (by have := HLE.out; omega) hin.out.2.size ?_))
          intro v5 w5 own5 gr5 loc5
          have FIN := Lib.hid (show w5.ownsRow w.heap.size 5 1 v5 ((ls.take (i + 1)).flatten.length) (bytesV (ls.take (i + 1)).flatten) ∧ Still w w5 from
            ⟨by rw [HST.out, List.length_append, HR.out.1]; first | exact own5 | simpa using own5, hin.out.2.grown gr5 hin.out.2.size (fun k hk => (hin.out.1.lt k hk).1)⟩)
          clear own5 gr5 loc5
          go_wp2_with fail
          go_roundw
          case rel => exact ⟨i + 1, by have := HLT.out; omega, by go_num, FIN.out⟩
          case measure => simp [intOf]; have := HLT.out; omega
        · obtain rfl : i = j := by omega
          have FIN := Lib.hid (show wr.ownsRow w.heap.size 5 1 u6 T (bytesV ls.flatten) by have h := hin.out.1; rwa [HM.out, List.take_length, ← HT.out] at h)
          clear hlt
          go_wp2_with fail
          go_ret
          exact ⟨⟨_, rfl, by rw [← HT.out]; exact FIN.out⟩, hin.out.2⟩
end Go.Proofs.YtnhkabohccbglaaDoor
