/- Contracts: names, room, works and step of a medium. It proves no statement. -/
import Derived.Test.YtlddmgofjeibaaaMdMap
import Derived.Test.YtlddmgofjeibaaaFar
import Derived.Laws.IdiomStrings
namespace Go.Proofs.Ytlddmgofjeibaaa
open Go.RowKit Go.Maps Go.WideMaps
set_option linter.unusedVariables false
set_option linter.unusedSimpArgs false

theorem index_textM (s : ByteArray) (w : World) (k : Nat) (h : k < s.size) : (Instr.index 9 (.string s) (.int .i64 (k : Int))).run Try.prog w = .ok (.int .u8 ((s.data.toList.getD k 0).toNat : Int)) w := by
  rw [run_index_string w 9 s .i64 (k : Int) (by kernel_rfl), dif_pos ⟨by omega, by omega⟩]
  congr 3
  simp only [List.getD, Array.getElem?_toList]
  rw [Array.getElem?_eq_getElem (show k < s.data.size from h)]
  rfl
/-- A byte of a name. -/
def inNm (c : Nat) : Bool := decide ((97 ≤ c ∧ c ≤ 122) ∨ (48 ≤ c ∧ c ≤ 57) ∨ c = 46 ∨ c = 45)
def nmOK (l : List UInt8) : Bool := decide (1 ≤ l.length ∧ l.length ≤ 24) && l.all (fun c => inNm c.toNat)
set_option maxRecDepth 100000 in
set_option maxHeartbeats 800000 in
theorem inName_any (c : Nat) (hc : c < 256) (w : World) : Calls Try.prog 64 #[.int .u8 (c : Int)] w fun e w' => e = .returned (.bool (inNm c)) ∧ w = w' := by
  by_cases a1 : 97 ≤ c
  · by_cases a2 : c ≤ 122
    · have E := Lib.hid (show inNm c = true by unfold inNm; exact decide_eq_true (by omega))
      go_enter Try.func64, Try.ntmps64
      go_wp2_with fail
      go_ret
      exact ⟨by rw [E.out]; first | rfl | (simp; omega), rfl⟩
    · have E := Lib.hid (show inNm c = false by unfold inNm; exact decide_eq_false (by omega))
      have b1 : ((c : Int) == 46) = false := by rw [beq_eq_false_iff_ne]; omega
      have b2 : ((c : Int) == 45) = false := by rw [beq_eq_false_iff_ne]; omega
      go_enter Try.func64, Try.ntmps64
      go_wp2_with fail
      go_ret
      exact ⟨by rw [E.out]; first | rfl | (simp; omega), rfl⟩
  · by_cases a3 : 48 ≤ c
    · by_cases a4 : c ≤ 57
      · have E := Lib.hid (show inNm c = true by unfold inNm; exact decide_eq_true (by omega))
        go_enter Try.func64, Try.ntmps64
        go_wp2_with fail
        go_ret
        exact ⟨by rw [E.out]; first | rfl | (simp; omega), rfl⟩
      · have E := Lib.hid (show inNm c = false by unfold inNm; exact decide_eq_false (by omega))
        have b1 : ((c : Int) == 46) = false := by rw [beq_eq_false_iff_ne]; omega
        have b2 : ((c : Int) == 45) = false := by rw [beq_eq_false_iff_ne]; omega
        go_enter Try.func64, Try.ntmps64
        go_wp2_with fail
        go_ret
        exact ⟨by rw [E.out]; first | rfl | (simp; omega), rfl⟩
    · by_cases a5 : c = 46
      · have E := Lib.hid (show inNm c = true by unfold inNm; exact decide_eq_true (by omega))
        subst a5
        go_enter Try.func64, Try.ntmps64
        go_wp2_with fail
        go_ret
        exact ⟨by rw [E.out]; first | rfl | (simp; omega), rfl⟩
      · have b1 : ((c : Int) == 46) = false := by rw [beq_eq_false_iff_ne]; omega
        by_cases a6 : c = 45
        · have E := Lib.hid (show inNm c = true by unfold inNm; exact decide_eq_true (by omega))
          subst a6
          go_enter Try.func64, Try.ntmps64
          go_wp2_with fail
          go_ret
          exact ⟨by rw [E.out]; first | rfl | (simp; omega), rfl⟩
        · have E := Lib.hid (show inNm c = false by unfold inNm; exact decide_eq_false (by omega))
          have b2 : ((c : Int) == 45) = false := by rw [beq_eq_false_iff_ne]; omega
          go_enter Try.func64, Try.ntmps64
          go_wp2_with fail
          go_ret
          exact ⟨by rw [E.out]; first | rfl | (simp; omega), rfl⟩
set_option maxRecDepth 100000 in
set_option maxHeartbeats 800000 in
theorem isName_any (s : ByteArray) (hs : s.size ≤ 9223372036854775807) (w : World) : Calls Try.prog 52 #[.string s] w fun e w' => e = .returned (.bool (nmOK s.data.toList)) ∧ w = w' := by
  obtain ⟨l, hl⟩ : ∃ l, l = s.data.toList := ⟨_, rfl⟩
  have hix : ∀ (k : Nat) (w : World), k < s.size → (Instr.index 9 (.string s) (.int .i64 (k : Int))).run Try.prog w = .ok (.int .u8 ((l.getD k 0).toNat : Int)) w := fun k w h => by rw [hl]; exact index_textM s w k h
  have hll : l.length = s.size := by rw [hl]; simp
  rw [← hl]
  obtain ⟨n, hn⟩ : ∃ n, n = s.size := ⟨_, rfl⟩
  have HLL := Lib.hid (show l.length = n by rw [hll, hn])
  have HIX := Lib.hid (fun (k : Nat) (h : k < n) => fun w => hix k w (by omega))
  have hsz : s.size = n := hn.symm
  have hn63 : n ≤ 9223372036854775807 := by omega
  clear hl hll hix hs hn
  go_enter Try.func52, Try.ntmps52
  go_wp2_with fail
  go_loopw [6] (fun iv wr => ∃ k : Nat, k ≤ n ∧ iv = .int .i64 k ∧ wr = w ∧ Hid (∀ i, i < k → inNm (l.getD i 0).toNat = true)) (fun iv _ => n - (intOf iv).toNat)
  case atStart => exact ⟨0, Nat.zero_le _, rfl, rfl, fun i hi => by omega⟩
  case round =>
    obtain ⟨k, hk, rfl, hw, hall⟩ := hrel
    subst hw
    by_cases hlt : k < n
    · have ix := HIX.out k hlt
      have IN := Lib.hid (inName_any (l.getD k 0).toNat (l.getD k 0).toNat_lt)
      obtain ⟨c, hc⟩ : ∃ c, c = (l.getD k 0).toNat := ⟨_, rfl⟩
      rw [← hc] at ix IN
      have z1 : (k : Int) < (n : Int) := by omega
      have HLT := Lib.hid hlt
      have HCC := Lib.hid hc
      clear hc hlt
      obtain ⟨q, hq⟩ : ∃ q, q = inNm c := ⟨_, rfl⟩
      rw [← hq] at IN
      have HQ := Lib.hid hq
      clear hq
      go_wp2_with fail
      refine (IN.out _).mono ?_
      rintro e w1 ⟨rfl, rfl⟩
      cases q
      · have E := Lib.hid (show nmOK l = false by
          unfold nmOK
          rw [Bool.and_eq_false_iff]
          right
          rw [List.all_eq_false]
          have hk2 : k < l.length := by rw [HLL.out]; exact HLT.out
          refine ⟨l[k], List.getElem_mem _, ?_⟩
          have : l.getD k 0 = l[k] := by simp [List.getD, hk2]
          rw [← this, ← HCC.out, ← HQ.out]
          decide)
        go_wp2_with fail
        (try simp only [Exit.inBlock, Exit.then])
        go_ret
        exact ⟨by rw [E.out]; rfl, rfl⟩
      · go_wp2_with fail
        go_roundw
        case rel =>
          refine ⟨k + 1, by have := HLT.out; omega, by go_num, by first | rfl | trivial, fun i hi => ?_⟩
          by_cases h : i = k
          · rw [h, ← HCC.out, ← HQ.out]
          · exact hall.out i (by omega)
        case measure => simp [intOf]; have := HLT.out; omega
    · obtain rfl : k = n := by omega
      have E := Lib.hid (show nmOK l = decide (1 ≤ k ∧ k ≤ 24) by
        unfold nmOK
        rw [HLL.out]
        have : l.all (fun c => inNm c.toNat) = true := by
          rw [List.all_eq_true]
          intro x hx
          obtain ⟨i, hi, rfl⟩ := List.getElem_of_mem hx
          have := hall.out i (by rw [← HLL.out]; exact hi)
          simpa [List.getD, hi] using this
        rw [this, Bool.and_true])
      clear hall hlt
      by_cases b1 : 1 ≤ k
      · by_cases b2 : k ≤ 24
        · have E2 := Lib.hid (show nmOK l = true by rw [E.out]; exact decide_eq_true ⟨b1, b2⟩)
          go_wp2_with fail
          go_ret
          exact ⟨by rw [E2.out]; first | rfl | (simp; omega), rfl⟩
        · have E2 := Lib.hid (show nmOK l = false by rw [E.out]; exact decide_eq_false (by omega))
          go_wp2_with fail
          go_ret
          exact ⟨by rw [E2.out]; first | rfl | (simp; omega), rfl⟩
      · have E2 := Lib.hid (show nmOK l = false by rw [E.out]; exact decide_eq_false (by omega))
        go_wp2_with fail
        go_ret
        exact ⟨by rw [E2.out]; first | rfl | (simp; omega), rfl⟩
end Go.Proofs.Ytlddmgofjeibaaa
