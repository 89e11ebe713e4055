/- Contracts and facts, several texts in one. It proves no statement. -/
import Derived.Test.YtljacdbdjacbkaaGreatDoorSny
import Derived.Test.YtljacdbdjacbkaaGreatDoorSnzj
import Derived.Test.YtljacdbdjacbkaaGreatDoorSne

/- Contracts: segments' names, by the document. It proves no statement. -/


namespace Go.Proofs.YtljacdbdjacbkaaGreatDoor
open Go.RowKit
set_option linter.unusedVariables false
set_option linter.unusedSimpArgs false

theorem slice_dec (w : World) (q : Nat) (h : q < 10) : (Instr.slice 9 (.string ⟨#[48, 49, 50, 51, 52, 53, 54, 55, 56, 57]⟩) (some (.int .i64 (q : Int))) (some (.int .i64 ((q + 1 : Nat) : Int))) none).run Tryz.prog w = .ok (.string ⟨#[UInt8.ofNat (48 + q)]⟩) w := by
  rw [run_slice_string w 9 _ .i64 .i64 (q : Int) ((q + 1 : Nat) : Int) (by kernel_rfl) (by omega) (by omega) (by have : (⟨#[48, 49, 50, 51, 52, 53, 54, 55, 56, 57]⟩ : ByteArray).size = 10 := rfl; omega)]
  congr 2
  obtain rfl | rfl | rfl | rfl | rfl | rfl | rfl | rfl | rfl | rfl : q = 0 ∨ q = 1 ∨ q = 2 ∨ q = 3 ∨ q = 4 ∨ q = 5 ∨ q = 6 ∨ q = 7 ∨ q = 8 ∨ q = 9 := by omega
  all_goals decide +kernel
theorem catR (a b : List UInt8) : (⟨a.toArray⟩ : ByteArray) ++ ⟨b.toArray⟩ = ⟨(a ++ b).toArray⟩ := by
  apply ByteArray.ext
  simp [ByteArray.data_append]
theorem sizeR (a : List UInt8) : (⟨a.toArray⟩ : ByteArray).size = a.length := by simp [ByteArray.size]
set_option maxRecDepth 100000 in
theorem rname_any (n : Int) (w : World) : Calls Tryz.prog 54 #[.int .i64 n] w fun e w' => e = .returned (.string (nameS n)) ∧ w' = w := by
  by_cases h0 : n < 0
  · have e : nameS n = ⟨#[]⟩ := by unfold nameS; rw [if_neg (by omega)]
    rw [e]
    clear e
    go_enter Tryz.func54, Tryz.ntmps54
    go_wp2_with fail
    go_ret
    exact ⟨rfl, rfl⟩
  by_cases h1 : 1048576 ≤ n
  · have e : nameS n = ⟨#[]⟩ := by unfold nameS; rw [if_neg (by omega)]
    rw [e]
    clear e
    go_enter Tryz.func54, Tryz.ntmps54
    go_wp2_with fail
    go_ret
    exact ⟨rfl, rfl⟩
  obtain ⟨m, rfl⟩ := Int.eq_ofNat_of_zero_le (show 0 ≤ n by omega)
  have hm : m < 1048576 := by omega
  have HM := Lib.hid hm
  obtain ⟨V0, hV0⟩ : ∃ V, V = nameS m := ⟨_, rfl⟩
  have HV0 := Lib.hid hV0
  rw [← hV0]
  clear h0 hm hV0
  go_enter Tryz.func54, Tryz.ntmps54
  go_wp2_with fail
  go_loopw [0, 3, 4] (fun nv sv iv wr => ∃ (i k : Nat) (S : ByteArray), nv = .int .i64 k ∧ sv = .string S ∧ iv = .int .i64 i ∧ i ≤ 8 ∧ Hid (k = m / 10 ^ i ∧ S = ⟨(dig i m).toArray⟩ ∧ wr = w)) (fun _ _ iv _ => 8 - (intOf iv).toNat)
  case atStart => exact ⟨0, m, ⟨#[]⟩, rfl, rfl, rfl, by omega, by simp, rfl, rfl⟩
  case round =>
    obtain ⟨i, k, S, rfl, rfl, rfl, hi, hh⟩ := hrel
    obtain ⟨hk, hS, hw⟩ := hh.out
    by_cases hlt : i < 8
    · have hkm : k < 1048576 := by
        have : m / 10 ^ i ≤ m := Nat.div_le_self _ _
        have := HM.out
        omega
      obtain ⟨q, hq⟩ : ∃ q, q = k % 10 := ⟨_, rfl⟩
      obtain ⟨r, hr⟩ : ∃ r, r = k / 10 := ⟨_, rfl⟩
      have e1 : (k : Int) % 10 = (q : Int) := by omega
      have e1' : Int.tmod (k : Int) 10 = (q : Int) := by rw [Int.tmod_eq_emod_of_nonneg (by omega)]; omega
      have e2 : Int.tdiv (k : Int) 10 = (r : Int) := by rw [Int.tdiv_eq_ediv_of_nonneg (by omega)]; omega
      have e2' : (k : Int) / 10 = (r : Int) := by omega
      have hq10 : q < 10 := by omega
      have sl := fun W => slice_dec W q hq10
      obtain ⟨q1, hq1⟩ : ∃ q1, q1 = q + 1 := ⟨_, rfl⟩
      rw [← hq1] at sl
      have e3 : (q : Int) + 1 = (q1 : Int) := by omega
      obtain ⟨D, hD⟩ : ∃ D : ByteArray, D = ⟨#[UInt8.ofNat (48 + q)]⟩ := ⟨_, rfl⟩
      rw [← hD] at sl
      obtain ⟨V, hV⟩ : ∃ V, V = D ++ S := ⟨_, rfl⟩
      have a1 : D ++ S = V := hV.symm
      have NX := Lib.hid (show V = ⟨(dig (i + 1) m).toArray⟩ ∧ r = m / 10 ^ (i + 1) from by
        constructor
        · rw [hV, hD, hS, dig_front]
          have e4 := catR [UInt8.ofNat (48 + q)] (dig i m)
          rw [show (⟨#[UInt8.ofNat (48 + q)]⟩ : ByteArray) = ⟨[UInt8.ofNat (48 + q)].toArray⟩ from rfl, e4, hq, hk]
          rfl
        · rw [hr, hk, Nat.div_div_eq_div_mul, ← Nat.pow_succ])
      have z1 : D.size + S.size ≤ 9223372036854775807 := by
        have s1 : D.size = 1 := by rw [hD]; rfl
        have s2 : S.size = i := by rw [hS, sizeR, dig_length]
        omega
      have HW := Lib.hid hw
      have lsz : (⟨#[48, 49, 50, 51, 52, 53, 54, 55, 56, 57]⟩ : ByteArray).size = 10 := rfl
      have f0 : (0 : Int) ≤ (q : Int) := by omega
      have f1 : (q1 : Int) ≤ 10 := by omega
      have f2 : (q : Int) ≤ (q1 : Int) := by omega
      have f3 : (0 : Int) ≤ (q1 : Int) := by omega
      have w64r : wrap64 (r : Int) = (r : Int) := by unfold wrap64; omega
      clear hh hk hS hw hq hr hq1 hD hV hkm h1
      go_wp2_with fail
      go_roundw
      case rel => exact ⟨i + 1, r, V, by go_num, by go_num, by go_num, by omega, NX.out.2, NX.out.1, HW.out⟩
      case measure => simp [intOf]; omega
    · obtain rfl : i = 8 := by omega
      have a1 : (⟨#[115, 101, 103, 46]⟩ : ByteArray) ++ S = V0 := by
        rw [hS, HV0.out, nameS_nat HM.out]
        have e2 := catR [115, 101, 103, 46] (dig 8 m)
        rw [show (⟨#[115, 101, 103, 46]⟩ : ByteArray) = ⟨[115, 101, 103, 46].toArray⟩ from rfl, e2]
        rfl
      have z1 : (⟨#[115, 101, 103, 46]⟩ : ByteArray).size + S.size ≤ 9223372036854775807 := by
        have s1 : (⟨#[115, 101, 103, 46]⟩ : ByteArray).size = 4 := rfl
        have s2 : S.size = 8 := by rw [hS, sizeR, dig_length]
        omega
      have HW := Lib.hid hw
      clear hh hk hS hw
      go_wp2_with fail
      go_ret
      exact ⟨rfl, HW.out⟩
end Go.Proofs.YtljacdbdjacbkaaGreatDoor

/- Contract: which segment a file is, by the document. It proves no statement. -/


namespace Go.Proofs.YtljacdbdjacbkaaGreatDoor
open Go.RowKit
set_option linter.unusedVariables false
set_option linter.unusedSimpArgs false

theorem within_min (x lo hi : Int) (w : World) (hh : lo ≤ hi) :
    Calls Tryz.prog 10 #[.int .i64 x, .int .i64 lo, .int .i64 hi] w fun e w' => e = .returned (.int .i64 (min (max x lo) hi)) ∧ w = w' := by
  by_cases h1 : x < lo
  · rw [show min (max x lo) hi = lo by omega]
    exact within_lo x lo hi w h1
  · by_cases h2 : hi < x
    · rw [show min (max x lo) hi = hi by omega]
      exact within_hi x lo hi w (by omega) h2
    · rw [show min (max x lo) hi = x by omega]
      exact within_in x lo hi w (by omega) (by omega)
theorem wrap_small (x : Nat) (h : x < 4611686018427387904) : wrap64 (x : Int) = (x : Int) := by
  unfold wrap64
  omega
theorem toListR_ne {a b : ByteArray} (h : a ≠ b) : (a.toList == b.toList) = false := by
  rw [ByteArray.toList_eq, ByteArray.toList_eq, beq_eq_false_iff_ne]
  intro e
  apply h
  apply ByteArray.ext
  exact Array.ext' e
theorem dig_digits : ∀ (k n : Nat), ∀ c ∈ dig k n, 48 ≤ c.toNat ∧ c.toNat ≤ 57
  | 0, _, c, h => by cases h
  | k + 1, n, c, h => by
    have h : c ∈ dig k (n / 10) ++ [UInt8.ofNat (48 + n % 10)] := h
    rcases List.mem_append.1 h with h | h
    · exact dig_digits k _ c h
    · rw [List.mem_singleton.1 h, digit_nat _ (by omega)]
      omega
theorem seg_char {s : List UInt8} {n k : Nat} (h : segOf s = some n) (h4 : 4 ≤ k) (h12 : k < 12) : 48 ≤ (s.getD k 0).toNat ∧ (s.getD k 0).toNat ≤ 57 := by
  obtain ⟨h1, h2⟩ := segOf_some h
  have hk : k < s.length := by rw [h1, sgnB_length]; exact h12
  have e : s.getD k 0 = s[k] := by simp [List.getD, hk]
  rw [e]
  have hm : s[k] ∈ dig 8 n := by
    rw [← sgnB_drop, ← h1]
    refine List.mem_of_getElem? (i := k - 4) ?_
    rw [List.getElem?_drop, show 4 + (k - 4) = k by omega]
    exact List.getElem?_eq_getElem hk
  exact dig_digits 8 n _ hm
theorem seg_len {s : List UInt8} {n : Nat} (h : segOf s = some n) : s.length = 12 := by
  rw [(segOf_some h).1, sgnB_length]
theorem valD_lt : ∀ (l : List UInt8) (a : Nat), (∀ c ∈ l, c.toNat ≤ 57) → valD a l < (a + 1) * 10 ^ l.length
  | [], a, _ => by simp [valD]
  | c :: r, a, h => by
    have h1 := valD_lt r (a * 10 + (c.toNat - 48)) (fun x hx => h x (List.mem_cons_of_mem _ hx))
    have h2 := h c List.mem_cons_self
    show valD (a * 10 + (c.toNat - 48)) r < (a + 1) * 10 ^ (r.length + 1)
    refine Nat.lt_of_lt_of_le h1 ?_
    rw [Nat.pow_succ, Nat.mul_comm (10 ^ r.length) 10, ← Nat.mul_assoc]
    exact Nat.mul_le_mul_right _ (by omega)
set_option maxRecDepth 100000 in
set_option maxHeartbeats 3200000 in
theorem rnumber_any (s : ByteArray) (w : World) (hs : s.size ≤ 9223372036854775807) : Calls Tryz.prog 52 #[.string s] w fun e w' => ∃ x : Int, e = .returned (.tuple #[.int .i64 x, .bool (segOf s.data.toList).isSome]) ∧ (∀ n, segOf s.data.toList = some n → x = n) ∧ w' = w := by
  obtain ⟨l, hl⟩ : ∃ l, l = s.data.toList := ⟨_, rfl⟩
  have hix : ∀ (k : Nat) (w : World), k < s.size → (Instr.index 9 (.string s) (.int .i64 (k : Int))).run Tryz.prog w = .ok (.int .u8 ((l.getD k 0).toNat : Int)) w := fun k w h => by rw [hl]; exact index_textM s w k h
  have hll : l.length = s.size := by rw [hl]; exact Array.length_toList
  rw [← hl]
  by_cases h12 : s.size = 12
  · obtain ⟨r, hr⟩ : ∃ r, r = (segOf l).isSome := ⟨_, rfl⟩
    rw [← hr]
    have NO := Lib.hid (fun k (h4 : 4 ≤ k) (hk : k < 12) (hc : (l.getD k 0).toNat < 48 ∨ 57 < (l.getD k 0).toNat) => (show r = false ∧ segOf l = none from by
      have : segOf l = none := by
        cases hq : segOf l with
        | none => rfl
        | some n => have := seg_char hq h4 hk; omega
      exact ⟨by rw [hr, this]; rfl, this⟩))
    have FIN := Lib.hid (show ∀ n, n = valD 0 (l.drop 4) → (nameS (n : Int) = s → r = true ∧ n < 1048576 ∧ segOf l = some n) ∧ (nameS (n : Int) ≠ s → r = false ∧ segOf l = none) from by
      intro n hn
      have hdef : segOf l = if n < 1048576 ∧ sgnB n = l then some n else none := by unfold segOf; rw [← hn]
      refine ⟨fun h => ?_, fun h => ?_⟩
      · have hn2 : n < 1048576 := by
          by_cases h2 : n < 1048576
          · exact h2
          · exfalso
            have e : s.size = 0 := by
              rw [← h]
              unfold nameS
              rw [if_neg (by omega)]
              rfl
            omega
        have h3 : sgnB n = l := by
          rw [hl, ← h, nameS_nat hn2]
        have h4 : segOf l = some n := by rw [hdef, if_pos ⟨hn2, h3⟩]
        exact ⟨by rw [hr, h4]; rfl, hn2, h4⟩
      · have h4 : segOf l = none := by
          rw [hdef, if_neg]
          rintro ⟨h5, h6⟩
          apply h
          rw [nameS_nat h5, h6, hl]
        exact ⟨by rw [hr, h4]; rfl, h4⟩)
    have HIX := Lib.hid (fun (k : Nat) (h : k < 12) => fun w => hix k w (by omega))
    have LL := Lib.hid (show l.length = 12 by omega)
    have VL := Lib.hid (fun k (hk : k ≤ 8) (hd : ∀ i, i < k → (l.getD (4 + i) 0).toNat ≤ 57) => (show valD 0 ((l.drop 4).take k) < 100000000 from by
      have h1 := valD_lt ((l.drop 4).take k) 0 (fun c hc => by
        obtain ⟨i, hi, rfl⟩ := List.getElem_of_mem hc
        rw [List.length_take, List.length_drop, LL.out] at hi
        have h2 := hd i (by omega)
        have e : l.getD (4 + i) 0 = l[4 + i]'(by rw [LL.out]; omega) := by simp [List.getD, show 4 + i < l.length by rw [LL.out]; omega]
        rw [e] at h2
        simpa using h2)
      rw [List.length_take, List.length_drop, LL.out, show min k (12 - 4) = k by omega] at h1
      have h3 : 10 ^ k ≤ 10 ^ 8 := Nat.pow_le_pow_right (by decide) hk
      have h4 : (10 : Nat) ^ 8 = 100000000 := by decide
      omega))
    have VS := Lib.hid (fun k (hk : k < 8) => (show valD 0 ((l.drop 4).take (k + 1)) = valD 0 ((l.drop 4).take k) * 10 + ((l.getD (4 + k) 0).toNat - 48) from by
      have hlt : 4 + k < l.length := by rw [LL.out]; omega
      rw [List.take_add_one, List.getElem?_drop, List.getElem?_eq_getElem hlt]
      unfold valD
      rw [List.foldl_append]
      simp [List.getD, hlt]))
    have VE := Lib.hid (show (l.drop 4).take 8 = l.drop 4 from List.take_of_length_le (by rw [List.length_drop, LL.out]; decide))
    clear hl hix hll hs hr
    go_enter Tryz.func52, Tryz.ntmps52
    go_wp2_with fail
    go_loopw [4, 5] (fun nv iv wr => ∃ (k n : Nat), nv = .int .i64 n ∧ iv = .int .i64 ((4 + k : Nat) : Int) ∧ k ≤ 8 ∧ wr = w ∧ Hid (n = valD 0 ((l.drop 4).take k) ∧ ∀ i, i < k → (l.getD (4 + i) 0).toNat ≤ 57)) (fun _ iv _ => 12 - (intOf iv).toNat)
    case atStart => exact ⟨0, 0, rfl, rfl, by omega, rfl, rfl, fun i hi => by omega⟩
    case round =>
      obtain ⟨k, n, rfl, rfl, hk, hw, hh⟩ := hrel
      subst hw
      by_cases hlt : k < 8
      · obtain ⟨hn, hd⟩ := hh.out
        have hn8 := VL.out k hk hd
        rw [← hn] at hn8
        obtain ⟨q, hq⟩ : ∃ q, q = 4 + k := ⟨_, rfl⟩
        have ix := HIX.out q (by omega)
        obtain ⟨c, hc⟩ : ∃ c, c = (l.getD q 0).toNat := ⟨_, rfl⟩
        have hc256 : c < 256 := by rw [hc]; exact (l.getD q 0).toNat_lt
        have NOK := Lib.hid (fun (h : c < 48 ∨ 57 < c) => NO.out q (by omega) (by omega) (by rw [← hc]; exact h))
        rw [← hc] at ix
        have HC := Lib.hid hc
        have EC := Lib.hid (show ∀ i, i = k → (l.getD (4 + i) 0).toNat = c from fun i e => by rw [e, ← hq]; exact hc.symm)
        clear hc
        rw [← hq]
        have z1 : (q : Int) < 12 := by omega
        have z0 : (0 : Int) ≤ (q : Int) := by omega
        have hsz : s.size = 12 := h12
        obtain ⟨m1, hm1⟩ : ∃ m1, m1 = n * 10 := ⟨_, rfl⟩
        obtain ⟨m2, hm2⟩ : ∃ m2, m2 = m1 + c := ⟨_, rfl⟩
        obtain ⟨m3, hm3⟩ : ∃ m3, m3 = n * 10 + (c - 48) := ⟨_, rfl⟩
        have x1 : (n : Int) * 10 = (m1 : Int) := by omega
        have X2 := Lib.hid (show (m1 : Int) + (c : Int) = (m2 : Int) by omega)
        have Y1 := Lib.hid (wrap_small m1 (by omega))
        have Y2 := Lib.hid (wrap_small m2 (by omega))
        have NX := Lib.hid (fun (h1 : ¬ c < 48) (h2 : ¬ 57 < c) => (show (m2 : Int) - 48 = (m3 : Int) ∧ wrap64 (m3 : Int) = (m3 : Int) ∧ m3 = valD 0 ((l.drop 4).take (k + 1)) ∧ ∀ i, i < k + 1 → (l.getD (4 + i) 0).toNat ≤ 57 from by
          refine ⟨by omega, wrap_small _ (by omega), ?_, fun i hi => ?_⟩
          · rw [VS.out k hlt, ← hn, EC.out k rfl, hm3]
          · by_cases e : i = k
            · rw [EC.out i e]; omega
            · exact hd i (by omega)))
        have HQ := Lib.hid hq
        have HLT := Lib.hid hlt
        clear hh hn hd hn8 hc256 HC EC hm1 hm2 hm3 hq hlt h12 hk
        by_cases h1 : c < 48
        · have K1 := Lib.hid (NOK.out (.inl h1))
          have a1 : (c : Int) < 48 := by omega
          clear h1 NOK
          go_wp2_with fail
          (try simp only [Exit.inBlock, Exit.then])
          go_ret2
          exact ⟨0, by rw [K1.out.1]; rfl, fun n h => (by rw [K1.out.2] at h; cases h), rfl⟩
        · by_cases h2 : 57 < c
          · have K1 := Lib.hid (NOK.out (.inr h2))
            have a1 : ¬ (c : Int) < 48 := by omega
            have a2 : (57 : Int) < (c : Int) := by omega
            clear h1 h2 NOK
            go_wp2_with fail
            (try simp only [Exit.inBlock, Exit.then])
            go_ret2
            exact ⟨0, by rw [K1.out.1]; rfl, fun n h => (by rw [K1.out.2] at h; cases h), rfl⟩
          · have a1 : ¬ (c : Int) < 48 := by omega
            have a2 : ¬ (57 : Int) < (c : Int) := by omega
            obtain ⟨x3, y3, n1, n2⟩ := NX.out h1 h2
            have NN := Lib.hid (And.intro n1 n2)
            have X3 := Lib.hid x3
            have Y3 := Lib.hid y3
            clear h1 h2 NOK NX n1 n2 x3 y3
            go_wp2_with fail
            go_roundw
            case rel => exact ⟨k + 1, m3, by rw [Y1.out, X2.out, Y2.out, X3.out, Y3.out], by have := HQ.out; go_num, by have := HLT.out; omega, (by first | rfl | trivial), NN.out⟩
            case measure => simp [intOf]; have := HQ.out; have := HLT.out; omega
      · obtain rfl : k = 8 := by omega
        obtain ⟨hn, hd⟩ := hh.out
        have hn8 := VL.out 8 hk hd
        rw [← hn] at hn8
        rw [VE.out] at hn
        obtain ⟨F1, F2⟩ := FIN.out n hn
        have WI := Lib.hid (within_min (n : Int) 0 1048575 wr (by omega))
        have RN := Lib.hid (rname_any (n : Int) wr)
        obtain ⟨V, hV⟩ : ∃ V, V = nameS (n : Int) := ⟨_, rfl⟩
        rw [← hV] at RN F1 F2
        obtain ⟨y, hy⟩ : ∃ y, y = min (max (n : Int) 0) 1048575 := ⟨_, rfl⟩
        rw [← hy] at WI
        have HY := Lib.hid (show n < 1048576 → y = (n : Int) from fun h => by rw [hy]; omega)
        clear hh hn hd hn8 hV hy hlt h12 hk
        by_cases hv : V = s
        · have K1 := Lib.hid (show r = true ∧ segOf l = some n from ⟨(F1 hv).1, (F1 hv).2.2⟩)
          have K2 := Lib.hid (F1 hv).2.1
          subst hv
          clear F1 F2
          go_wp2_with (first
            | (go_at_call 10; refine WI.out.mono ?_; rintro e w1 ⟨rfl, rfl⟩)
            | (go_at_call 54; refine RN.out.mono ?_; rintro e w1 ⟨rfl, rfl⟩))
          go_ret2
          exact ⟨y, by rw [K1.out.1]; rfl, fun m h => (by rw [K1.out.2] at h; obtain rfl := Option.some.inj h; exact HY.out K2.out), rfl⟩
        · have K1 := Lib.hid (F2 hv)
          have ne := toListR_ne hv
          clear F1 F2 hv
          go_wp2_with (first
            | (go_at_call 10; refine WI.out.mono ?_; rintro e w1 ⟨rfl, rfl⟩)
            | (go_at_call 54; refine RN.out.mono ?_; rintro e w1 ⟨rfl, rfl⟩))
          go_ret2
          exact ⟨y, by rw [K1.out.1]; rfl, fun m h => (by rw [K1.out.2] at h; cases h), rfl⟩
  · have hn : segOf l = none := by
      cases hq : segOf l with
      | none => rfl
      | some n => have := seg_len hq; omega
    rw [hn]
    obtain ⟨n, hn2⟩ : ∃ n, n = s.size := ⟨_, rfl⟩
    have h3 : (((n : Nat) : Int) != 12) = true := by simp; omega
    have hsz : s.size = n := hn2.symm
    clear hl hix hll hs hn h12 hn2
    go_enter Tryz.func52, Tryz.ntmps52
    go_wp2_with fail
    go_ret2
    exact ⟨0, rfl, fun n h => (by cases h), rfl⟩
end Go.Proofs.YtljacdbdjacbkaaGreatDoor
