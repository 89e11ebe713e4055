/- Bursts: plain facts, and the walk of CrcBurst: it returns true, and nothing that was there turns. -/
import Derived.Test.YtagolnmkcjbibaaDoorCrcLaws
namespace Go.Proofs.YtagolnmkcjbibaaDoor
open Go.RowKit
set_option linter.unusedVariables false
set_option linter.unusedSimpArgs false

/-- The lowest n bytes of a number, the lowest first. -/
def loBytes (x n : Nat) : List UInt8 := (List.range n).map (fun i => UInt8.ofNat (x / 2 ^ (8 * i)))
theorem loBytes_length (x n : Nat) : (loBytes x n).length = n := by simp [loBytes]
theorem loBytes_get (x n i : Nat) (h : i < n) : (loBytes x n)[i]'(by rw [loBytes_length]; exact h) = UInt8.ofNat (x / 2 ^ (8 * i)) := by simp [loBytes]
theorem ofNat_xor (a b : Nat) : UInt8.ofNat (a ^^^ b) = UInt8.ofNat a ^^^ UInt8.ofNat b := by
  apply UInt8.toNat_inj.1
  rw [UInt8.toNat_xor]
  simp only [UInt8.toNat_ofNat']
  exact Nat.xor_mod_two_pow
theorem div_xor (x y k : Nat) : (x ^^^ y) / 2 ^ k = x / 2 ^ k ^^^ y / 2 ^ k := by
  apply Nat.eq_of_testBit_eq
  intro i
  simp [Nat.testBit_div_two_pow]
theorem mul_xor (x y k : Nat) : (x ^^^ y) * 2 ^ k = x * 2 ^ k ^^^ y * 2 ^ k := by
  apply Nat.eq_of_testBit_eq
  intro i
  simp only [Nat.testBit_mul_two_pow, Nat.testBit_xor]
  by_cases h : k ≤ i <;> simp [h]
theorem loBytes_xor (x y n : Nat) : loBytes (x ^^^ y) n = xorBytes (loBytes x n) (loBytes y n) := by
  unfold loBytes xorBytes
  rw [List.zipWith_map, List.zipWith_self]
  apply List.map_congr_left
  intro i hi
  rw [div_xor, ofNat_xor]
theorem crcRun_rep (x k : Nat) : crcRun x (List.replicate k 0) = nxs (8 * k) x := by
  induction k generalizing x with
  | zero => rfl
  | succ k ih =>
    rw [List.replicate_succ, crcRun_cons, ih, show 8 * (k + 1) = 8 + 8 * k by omega, nxs_add]
    unfold crcByte
    simp
theorem loBytes_two (p n : Nat) (h : p < 8 * n) : loBytes (2 ^ p) n = List.replicate (p / 8) 0 ++ (UInt8.ofNat (2 ^ (p % 8)) :: List.replicate (n - 1 - p / 8) 0) := by
  apply List.ext_getElem
  · simp [loBytes_length]; omega
  · intro i h1 h2
    rw [loBytes_length] at h1
    rw [loBytes_get _ _ _ h1]
    rcases Nat.lt_trichotomy i (p / 8) with c | c | c
    · rw [List.getElem_append_left (by simpa using c)]
      simp only [List.getElem_replicate]
      apply UInt8.toNat_inj.1
      have e : 2 ^ p / 2 ^ (8 * i) = 2 ^ (p - 8 * i) := Nat.pow_div (by omega) (by omega)
      rw [e, show p - 8 * i = 8 + (p - 8 * i - 8) by omega, Nat.pow_add]
      simp
    · subst c
      rw [List.getElem_append_right (by simp)]
      simp only [List.length_replicate, Nat.sub_self, List.getElem_cons_zero]
      have e : 2 ^ p / 2 ^ (8 * (p / 8)) = 2 ^ (p - 8 * (p / 8)) := Nat.pow_div (by omega) (by omega)
      rw [e, show p - 8 * (p / 8) = p % 8 by omega]
    · rw [List.getElem_append_right (by simp; omega)]
      have e2 : ∃ j, i - p / 8 = j + 1 := ⟨i - p / 8 - 1, by omega⟩
      obtain ⟨j, hj⟩ := e2
      simp only [List.length_replicate, hj, List.getElem_cons_succ, List.getElem_replicate]
      have e : 2 ^ p / 2 ^ (8 * i) = 0 := Nat.div_eq_of_lt (Nat.pow_lt_pow_right (by omega) (by omega))
      rw [e]
      rfl
theorem run_two (p n : Nat) (h : p < 8 * n) : crcRun 0 (loBytes (2 ^ p) n) = nxs (8 * n - p) 1 := by
  rw [loBytes_two p n h, crcRun_append, crcRun_rep, nxs_zero, crcRun_cons, crcRun_rep]
  unfold crcByte
  have e : (UInt8.ofNat (2 ^ (p % 8))).toNat = 2 ^ (p % 8) := by
    simp only [UInt8.toNat_ofNat']
    exact Nat.mod_eq_of_lt (Nat.pow_lt_pow_right (by omega) (Nat.mod_lt _ (by omega)))
  have e2 : nxs (p % 8) (2 ^ (p % 8)) = 1 := by
    have := nxs_two (p % 8) 0
    simpa using this
  rw [Nat.zero_xor, e, ← nxs_add, show 8 + 8 * (n - 1 - p / 8) = p % 8 + (8 * n - p) by omega, nxs_add, e2]
/-- What a burst leaves of a register that was nought. -/
theorem run_burst (at_ n m v : Nat) (hm : m ≤ 32) (h : at_ + m ≤ 8 * n) (hv : v < 2 ^ m) : crcRun 0 (loBytes (v * 2 ^ at_) n) = nxs (8 * n - at_) v := by
  refine lin_ext (fun v => crcRun 0 (loBytes (v * 2 ^ at_) n)) (fun v => nxs (8 * n - at_) v) (fun x y => ?_) (fun x y => nxs_xor _ x y) m (fun j hj => ?_) v hv
  · show crcRun 0 (loBytes ((x ^^^ y) * 2 ^ at_) n) = _
    rw [mul_xor, loBytes_xor]
    have := crcRun_xor (loBytes (x * 2 ^ at_) n) (loBytes (y * 2 ^ at_) n) (by simp [loBytes_length]) 0 0
    simpa using this.symm
  · show crcRun 0 (loBytes (2 ^ j * 2 ^ at_) n) = nxs (8 * n - at_) (2 ^ j)
    rw [← Nat.pow_add, run_two _ _ (by omega)]
    have e2 : nxs j (2 ^ j) = 1 := by
      have := nxs_two j 0
      simpa using this
    rw [show 8 * n - at_ = j + (8 * n - (j + at_)) by omega, nxs_add, e2]
/-- A burst is seen. -/
theorem burst_seen (b : List UInt8) (at_ m v : Nat) (hm : m ≤ 32) (h : at_ + m ≤ 8 * b.length) (hv : v < 2 ^ m) (h0 : v ≠ 0) :
    crcSum (xorBytes b (loBytes (v * 2 ^ at_) b.length)) ≠ crcSum b := by
  intro e
  have hl : (xorBytes b (loBytes (v * 2 ^ at_) b.length)).length = b.length := by simp [xorBytes, loBytes_length]
  have hd := crcAdd_diff 0 (xorBytes b (loBytes (v * 2 ^ at_) b.length)) b hl
  unfold crcSum at e
  rw [e, Nat.xor_self] at hd
  have hx := crcRun_xor b (loBytes (v * 2 ^ at_) b.length) (by simp [loBytes_length]) 0 0
  rw [Nat.xor_self, run_burst at_ b.length m v hm h hv] at hx
  rw [← hx, Nat.xor_comm (crcRun 0 b), Nat.xor_assoc, Nat.xor_self, Nat.xor_zero] at hd
  exact nxs_ne _ v (Nat.lt_of_lt_of_le hv (Nat.pow_le_pow_right (by omega) hm)) h0 hd.symm

/-- One bit of a burst more. -/
theorem burst_step (b : List UInt8) (at_ i v : Nat) (hv : v < 2 ^ i) (h : (at_ + i) / 8 < b.length) :
    (xorBytes b (loBytes (v * 2 ^ at_) b.length)).set ((at_ + i) / 8) ((xorBytes b (loBytes (v * 2 ^ at_) b.length)).getD ((at_ + i) / 8) 0 ^^^ UInt8.ofNat (2 ^ ((at_ + i) % 8))) =
      xorBytes b (loBytes ((v + 2 ^ i) * 2 ^ at_) b.length) := by
  have e : v + 2 ^ i = v ^^^ 2 ^ i := by
    apply Nat.eq_of_testBit_eq
    intro j
    rw [Nat.add_comm, ← nat_join i (2 ^ i) v (by simp) hv, Nat.testBit_or, Nat.testBit_xor, Nat.testBit_two_pow]
    by_cases hj : i = j
    · subst hj
      rw [Nat.testBit_lt_two_pow hv]
      simp
    · simp [hj]
  rw [e, mul_xor, ← Nat.pow_add, loBytes_xor, Nat.add_comm i at_, loBytes_two (at_ + i) b.length (by omega)]
  apply List.ext_getElem
  · simp [xorBytes, loBytes_length]; omega
  · intro j h1 h2
    rw [List.getElem_set]
    have hj : j < b.length := by simp [xorBytes, loBytes_length] at h1; omega
    have hxl : (xorBytes b (loBytes (v * 2 ^ at_) b.length)).length = b.length := by simp [xorBytes, loBytes_length]
    by_cases c : (at_ + i) / 8 = j
    · subst c
      rw [if_pos rfl]
      simp only [xorBytes, List.getD, List.getElem?_eq_getElem (show (at_ + i) / 8 < (List.zipWith (fun x1 x2 => x1 ^^^ x2) b (loBytes (v * 2 ^ at_) b.length)).length by simpa [loBytes_length] using h), Option.getD_some, List.getElem_zipWith]
      rw [List.getElem_append_right (by simp)]
      simp [UInt8.xor_assoc]
    · rw [if_neg c]
      simp only [xorBytes, List.getElem_zipWith]
      have e0 : (List.replicate ((at_ + i) / 8) (0 : UInt8) ++ (UInt8.ofNat (2 ^ ((at_ + i) % 8)) :: List.replicate (b.length - 1 - (at_ + i) / 8) 0))[j]'(by simp; omega) = 0 := by
        rcases Nat.lt_or_ge j ((at_ + i) / 8) with d | d
        · rw [List.getElem_append_left (by simpa using d)]
          simp
        · rw [List.getElem_append_right (by simpa using d)]
          obtain ⟨t, ht⟩ : ∃ t, j - (at_ + i) / 8 = t + 1 := ⟨j - (at_ + i) / 8 - 1, by omega⟩
          simp [ht]
      rw [e0]
      simp

theorem burst_cast (d k : Nat) (hd : d < 256) : bits BinOp.xor IntKind.u8 (d : Int) (2 ^ k % 256) = ((d ^^^ (UInt8.ofNat (2 ^ k)).toNat : Nat) : Int) := by
  have e : ((2 : Int) ^ k % 256) = ((2 ^ k % 256 : Nat) : Int) := by simp
  rw [e, u8_xor_nat _ _ hd (Nat.mod_lt _ (by omega))]
  simp only [UInt8.toNat_ofNat']

set_option maxRecDepth 100000 in
set_option maxHeartbeats 1600000 in
theorem crcBurst_walk (A0 : Option Addr) (n0 c0 : Nat) (z0 : List Int) (at0 span0 pat : Int) (w : World) (h0 : RowIn .u8 w A0 n0 c0 z0) (hp0 : 0 ≤ pat) (hp1 : pat < 4294967296) (T : Tabs w) :
    Calls Tryd.prog 6 #[.slice A0 n0 c0, .int .i64 at0, .int .i64 span0, .int .u32 pat] w fun e w' => e = .returned (.bool true) ∧ Below w.heap.size w w' := by
  obtain ⟨pat, rfl⟩ := Int.eq_ofNat_of_zero_le hp0
  have hpb : pat < 4294967296 := by omega
  obtain ⟨l0, r0, hc0, hm0, hA0⟩ := reads_of_row h0
  obtain ⟨n, l, rl, hn, hnc, hA, hcut⟩ : ∃ n l, Reads w w.heap.size A0 n l ∧ n ≤ 500 ∧ n ≤ c0 ∧ (A0 = none → n = 0 ∧ c0 = 0) ∧ Calls Tryd.prog 9 #[.slice A0 n0 c0, .int .i64 500] w fun e w' => e = .returned (.slice A0 n c0) ∧ w = w' :=
    ⟨_, _, r0.take 500, by omega, by omega, fun e => ⟨by have := (hA0 e).1; omega, (hA0 e).2⟩, cut_any A0 n0 c0 500 l0 w _ r0 hc0 hm0 (by omega)⟩
  have HC := Lib.hid hcut
  have TT := Lib.hid T
  clear T
  clear hcut h0 r0 hA0 hm0 hp0 hp1
  by_cases hn0 : n = 0
  · subst hn0
    go_enter Tryd.func6, Tryd.ntmps6
    go_wp2_with fail
    refine HC.out.mono ?_
    rintro e w1 ⟨rfl, rfl⟩
    go_wp2_with fail
    refine (crclives w TT.out).mono ?_
    rintro e w1 ⟨rfl, s1⟩
    go_wp2_with fail
    go_ret
    exact ⟨rfl, s1⟩
  · have hn1 : 1 ≤ n := by omega
    have hne : ((n : Int) == 0) = false := by simp; omega
    have hln : l.length = n := rl.1
    obtain ⟨P, hP⟩ : ∃ P, P = pat ||| 1 := ⟨_, rfl⟩
    have hPv : bits BinOp.or IntKind.u32 (pat : Int) 1 = (P : Int) := by rw [hP]; exact u32_or_nat pat 1 hpb (by omega)
    have hPb : P < 4294967296 := by rw [hP]; exact Nat.or_lt_two_pow (n := 32) hpb (by decide)
    have hPo : P % 2 = 1 := by
      have h := Nat.testBit_or pat 1 0
      rw [← hP] at h
      simpa [Nat.testBit_zero] using h
    clear hP
    go_enter Tryd.func6, Tryd.ntmps6
    go_wp2_with fail
    refine HC.out.mono ?_
    rintro e w1 ⟨rfl, rfl⟩
    go_wp2_with fail
    refine (within_any span0 1 32 w (by omega)).mono ?_
    rintro e w1 ⟨⟨sp, hs1, hs2, rfl⟩, rfl⟩
    obtain ⟨sp, rfl⟩ := Int.eq_ofNat_of_zero_le (show 0 ≤ sp by omega)
    go_wp2_with fail
    refine (copy_any A0 n c0 l w _ rl (by omega) hA).mono ?_
    rintro e w1 ⟨⟨v, rfl, own1⟩, s1⟩
    obtain ⟨A1, c1, rfl, _, _, _⟩ := own_form own1
    have rl1 := rl.still (Nat.le_refl _) s1
    go_wp2_with fail
    refine (within_any at0 0 (8 * (n : Int) - 1) w1 (by omega)).mono ?_
    rintro e w2 ⟨⟨at1, ha1, ha2, rfl⟩, rfl⟩
    obtain ⟨at1, rfl⟩ := Int.eq_ofNat_of_zero_le ha1
    obtain ⟨g, cap, hv, hgb, hgl⟩ := own1.form (by omega)
    simp only [Value.slice.injEq] at hv
    obtain ⟨rfl, -, rfl⟩ := hv
    have hwg : w.heap.size ≤ g := hgb
    have own2 : w1.ownsRow w.heap.size 5 1 (.slice (some ⟨g, 0, none⟩) n c1) n (bytesV (xorBytes l (loBytes (P % 2 ^ 0 * 2 ^ at1) l.length))) := by
      have e : xorBytes l (loBytes (P % 2 ^ 0 * 2 ^ at1) l.length) = l := by
        rw [Nat.pow_zero, Nat.mod_one, Nat.zero_mul]
        apply List.ext_getElem
        · simp [xorBytes, loBytes_length]
        · intro i h1 h2
          simp only [xorBytes, List.getElem_zipWith, loBytes, List.getElem_map]
          simp
      rw [e]
      exact own1
    have hsp1 : 1 ≤ sp := by omega
    have hsp2 : sp ≤ 32 := by omega
    have hat : at1 + 1 ≤ 8 * n := by omega
    have PO := Lib.hid hPo
    have LN := Lib.hid hln
    clear own1 hs1 hs2 ha2 hA hgl hgb hnc hPo hln
    go_wp2_with fail
    go_loopw [10, 11] (fun i _ wr => ∃ j : Nat, i = .int .i64 j ∧ j ≤ sp ∧ at1 + j ≤ 8 * n ∧ wr.ownsRow w.heap.size 5 1 (.slice (some ⟨g, 0, none⟩) n c1) n (bytesV (xorBytes l (loBytes (P % 2 ^ j * 2 ^ at1) l.length))) ∧ Still w wr) (fun i _ _ => 32 - (intOf i).toNat)
    case atStart => exact ⟨0, rfl, Nat.zero_le _, by omega, own2, s1⟩
    case round =>
      obtain ⟨j, rfl, hj1, hj2, own, st⟩ := hrel
      by_cases hlt : j < sp ∧ at1 + j < 8 * n
      · obtain ⟨d1, d2⟩ := hlt
        have d3 : (j : Int) < 8 * (n : Int) - (at1 : Int) := by omega
        have f3 : ((P : Int) / 2 ^ j) = ((P / 2 ^ j : Nat) : Int) := by simp
        have f4 := u32_low (P / 2 ^ j) (Nat.lt_of_le_of_lt (Nat.div_le_self _ _) hPb)
        have hmod : P % 2 ^ (j + 1) = P % 2 ^ j + (P / 2 ^ j % 2) * 2 ^ j := by rw [Nat.pow_succ, Nat.mod_mul, Nat.mul_comm (2 ^ j)]
        have b2 : P / 2 ^ j % 2 < 2 := by omega
        generalize P / 2 ^ j % 2 = q at f4 hmod b2
        generalize P / 2 ^ j = q2 at f3 f4
        by_cases hq : q = 1
        · subst hq
          have hk8 : (at1 + j) / 8 < n := by omega
          have hlen : (xorBytes l (loBytes (P % 2 ^ j * 2 ^ at1) l.length)).length = n := by have := own.1; rw [bytesV_length] at this; omega
          have c1' := own.cellAt ((at1 + j) / 8) (by omega)
          rw [bytesV_get _ _ (by omega)] at c1'
          have f1 := own.frozenAt ((at1 + j) / 8)
          have hstep := burst_step l at1 j (P % 2 ^ j) (Nat.mod_lt _ (Nat.two_pow_pos j)) (by rw [LN.out]; exact hk8)
          rw [Nat.one_mul] at hmod
          rw [← hmod] at hstep
          have st1 := (own.stored ((at1 + j) / 8) (.int .u8 (((xorBytes l (loBytes (P % 2 ^ j * 2 ^ at1) l.length)).getD ((at1 + j) / 8) 0 ^^^ UInt8.ofNat (2 ^ ((at1 + j) % 8))).toNat : Int))).1
          rw [bytesV_set, hstep] at st1
          have hd := ((xorBytes l (loBytes (P % 2 ^ j * 2 ^ at1) l.length)).getD ((at1 + j) / 8) 0).toNat_lt
          rw [UInt8.toNat_xor] at st1
          generalize ((xorBytes l (loBytes (P % 2 ^ j * 2 ^ at1) l.length)).getD ((at1 + j) / 8) 0).toNat = d at c1' st1 hd
          have ST1 := Lib.hid st1
          clear st1 hstep hmod own hlen
          go_wp2_with fail
          go_roundw
          case rel => exact ⟨j + 1, by go_num, by omega, by omega, by rw [burst_cast _ _ hd]; exact ST1.out, st.setCell (p := ⟨g, (at1 + j) / 8, none⟩) hwg _⟩
          case measure => simp [intOf]; omega
        · have hq0 : q = 0 := by omega
          subst hq0
          simp only [Nat.zero_mul, Nat.add_zero] at hmod
          rw [← hmod] at own
          have OW := Lib.hid own
          clear own hmod
          go_wp2_with fail
          go_roundw
          case rel => exact ⟨j + 1, by go_num, by omega, by omega, OW.out, st⟩
          case measure => simp [intOf]; omega
      · have hj0 : 1 ≤ j := by
          rcases Nat.eq_zero_or_pos j with h | h
          · subst h
            exact absurd ⟨by omega, by omega⟩ hlt
          · exact h
        have hseen := burst_seen l at1 j (P % 2 ^ j) (by omega) (by rw [LN.out]; omega) (Nat.mod_lt _ (Nat.two_pow_pos j)) (by
          have h1 : P % 2 ^ j % 2 = P % 2 := by
            obtain ⟨t, rfl⟩ : ∃ t, j = t + 1 := ⟨j - 1, by omega⟩
            rw [Nat.pow_succ, Nat.mul_comm, Nat.mod_mul_right_mod]
          have h2 := PO.out
          omega)
        generalize xorBytes l (loBytes (P % 2 ^ j * 2 ^ at1) l.length) = lc at own hseen
        have key : (j < sp ∧ decide ((j : Int) < 8 * (n : Int) - (at1 : Int)) = false) ∨ ¬ j < sp := by
          by_cases d1 : j < sp
          · exact .inl ⟨d1, by simp; omega⟩
          · exact .inr d1
        have qc := Reads.of_own own
        have rlr := rl.still (Nat.le_refl _) st
        have hz : w.heap.size ≤ wr.heap.size := st.size
        obtain ⟨S1, hS1⟩ : ∃ S, S = crcSum lc := ⟨_, rfl⟩
        obtain ⟨S2, hS2⟩ : ∃ S, S = crcSum l := ⟨_, rfl⟩
        rw [← hS1, ← hS2] at hseen
        have hne2 : ((S1 : Int) != (S2 : Int)) = true := by rw [bne_iff_ne]; omega
        have E1 := Lib.hid hS1
        have E2 := Lib.hid hS2
        clear hS1 hS2 own own2 hlt hseen rl1
        rcases key with ⟨d1, d2⟩ | d1
        all_goals
          go_wp2_with fail
          refine (crcsum_any _ n c1 lc wr _ (TT.out.still st) qc (Nat.le_refl _) (by omega)).mono ?_
          rintro e w2 ⟨rfl, t1⟩
          rw [← E1.out]
          have rl2 := rlr.still hz t1
          have hz2 : w.heap.size ≤ w2.heap.size := by have := t1.size; omega
          go_wp2_with fail
          refine (crcsum_any A0 n c0 l w2 _ (TT.out.still (st.trans t1)) rl2 hz2 (by omega)).mono ?_
          rintro e w3 ⟨rfl, t2⟩
          rw [← E2.out]
          go_wp2_with fail
          refine (crclives w3 (TT.out.still (st.trans (t1.trans t2)))).mono ?_
          rintro e w4 ⟨rfl, t3⟩
          go_wp2_with fail
          go_ret
          exact ⟨rfl, st.trans (t1.trans (t2.trans t3))⟩
end Go.Proofs.YtagolnmkcjbibaaDoor
