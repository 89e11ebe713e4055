/- Contracts: the document's own answer for CRC-32. It proves no statement. -/
import Derived.Test.YtnhkabohccbglaaDoorSame
import Derived.Test.YtnhkabohccbglaaDoorCrcMath
import Derived.Laws.BitsAllLaws
namespace Go.Proofs.YtnhkabohccbglaaDoor
open Go.RowKit
set_option linter.unusedVariables false
set_option linter.unusedSimpArgs false

theorem u32_poly (x : Nat) (hx : x < 4294967296) : bits BinOp.xor IntKind.u32 (x : Int) 3988292384 = ((x ^^^ crcPoly : Nat) : Int) := u32_xor_nat x crcPoly hx (by decide)
theorem u32_ones (x : Nat) (hx : x < 4294967296) : bits BinOp.xor IntKind.u32 (x : Int) 4294967295 = ((x ^^^ ones32 : Nat) : Int) := u32_xor_nat x ones32 hx (by decide)
theorem u32_low (x : Nat) (hx : x < 4294967296) : bits BinOp.and IntKind.u32 (x : Int) 1 = ((x % 2 : Nat) : Int) := by
  have h := u32_and_nat x 1 hx (by omega)
  rw [nat_mask1] at h
  exact h
theorem u8_low (x : Nat) (hx : x < 256) : bits BinOp.and IntKind.u8 (x : Int) 1 = ((x % 2 : Nat) : Int) := by
  have h := u8_and_nat x 1 hx (by omega)
  rw [nat_mask1] at h
  exact h
theorem int_half (x : Nat) : (x : Int) / 2 = ((x / 2 : Nat) : Int) := by simp
theorem nx_odd (x : Nat) (h : x % 2 = 1) : nx x = x / 2 ^^^ crcPoly := by simp [nx, h]
theorem nx_even (x : Nat) (h : x % 2 = 0) : nx x = x / 2 := by simp [nx, h]

/-- One bit, as it is told there. -/
theorem nx_bit (x d : Nat) (hd : d = 0 ∨ d = 1) : nx (x ^^^ d) = if x % 2 = d then x / 2 else x / 2 ^^^ crcPoly := by
  unfold nx
  rw [xor_half, xor_odd]
  rcases hd with rfl | rfl <;> rcases Nat.mod_two_eq_zero_or_one x with h | h <;> simp [h]

set_option maxHeartbeats 800000 in
theorem radd_any (s : Nat) (A : Option Addr) (n c : Nat) (l : List UInt8) (w : World) (B : Nat) (hs : s < 4294967296) (h : Reads w B A n l) (hn : n ≤ 9223372036854775807) :
    Calls Tryd.prog 46 #[.int .u32 s, .slice A n c] w fun e w' => e = .returned (.int .u32 (crcAdd s l : Nat)) ∧ w = w' := by
  have hl := h.1
  have hx0 := u32_ones s hs
  have hs0 : s ^^^ ones32 < 4294967296 := Nat.xor_lt_two_pow (n := 32) hs (by decide)
  have hrun : ∀ k, crcRun (s ^^^ ones32) (l.take k) < 4294967296 := fun k => crcRun_lt _ _ hs0
  have hfin := u32_ones (crcRun (s ^^^ ones32) l) (crcRun_lt _ _ hs0)
  have hadd : crcRun (s ^^^ ones32) l ^^^ ones32 = crcAdd s l := rfl
  rw [hadd] at hfin
  generalize crcAdd s l = R at hfin ⊢
  generalize s ^^^ ones32 = s0 at hx0 hs0 hrun hfin hadd
  have HR := Lib.hid hrun
  have HF := Lib.hid hfin
  clear hrun hfin hadd
  go_enter Tryd.func46, Tryd.ntmps46
  go_wp2_with fail
  go_loop [5, 6] (fun x i => ∃ k : Nat, k ≤ n ∧ i = .int .i64 k ∧ ∃ y : Nat, x = .int .u32 y ∧ Hid (y = crcRun s0 (l.take k))) (fun _ i => n - (intOf i).toNat)
  case atStart => exact ⟨0, Nat.zero_le _, rfl, s0, rfl, rfl⟩
  case round =>
    obtain ⟨k, hk, rfl, y, rfl, hy⟩ := hrel
    by_cases hlt : k < n
    · obtain ⟨b, o, rfl, hb, hc⟩ := h.at_ (by omega)
      have c1 := hc k hlt
      obtain ⟨d, hd⟩ : ∃ d, d = (l.getD k 0).toNat := ⟨_, rfl⟩
      rw [← hd] at c1
      have hd' : d < 256 := by rw [hd]; exact (l.getD k 0).toNat_lt
      have hyb : y < 4294967296 := by rw [hy.out]; exact HR.out k
      have HD := Lib.hid hd
      clear hc hd
      go_wp2_with fail
      go_loop [5, 7] (fun x i => ∃ j : Nat, j ≤ 8 ∧ i = .int .u64 j ∧ ∃ z : Nat, x = .int .u32 z ∧ z < 4294967296 ∧ Hid (z = nxs j (y ^^^ d % 2 ^ j))) (fun _ i => 8 - (intOf i).toNat)
      case atStart => exact ⟨0, Nat.zero_le _, rfl, y, rfl, hyb, by simp [Hid, nxs, Nat.mod_one]⟩
      case round =>
        obtain ⟨j, hj, rfl, z, rfl, hzb, hz⟩ := hrel
        by_cases hj8 : j < 8
        · have hbit := crcByte_bits y d j hj hd'
          rw [← hz.out, nx_bit z _ (Nat.mod_two_eq_zero_or_one _)] at hbit
          have e1 := u32_low z hzb
          have e2 := int_half z
          have e3 : ((d : Int) / 2 ^ j) = ((d / 2 ^ j : Nat) : Int) := by simp
          have e4 := u8_low (d / 2 ^ j) (Nat.lt_of_le_of_lt (Nat.div_le_self _ _) hd')
          have e5 := u32_poly (z / 2) (by omega)
          have hz2 : z / 2 < 4294967296 := by omega
          have hz3 : z / 2 ^^^ crcPoly < 4294967296 := Nat.xor_lt_two_pow (n := 32) hz2 (by decide)
          have b1 : z % 2 < 2 := by omega
          have b2 : d / 2 ^ j % 2 < 2 := by omega
          generalize d / 2 ^ j % 2 = q at hbit e4 b2
          generalize d / 2 ^ j = q2 at e3 e4
          generalize z % 2 = p at hbit e1 b1
          generalize z / 2 = z2 at hbit e2 e5 hz2 hz3
          generalize z2 ^^^ crcPoly = z3 at hbit e5 hz3
          have HB := Lib.hid hbit
          clear hbit
          by_cases hpq : p = q
          · subst hpq
            go_wp2_with fail
            go_round
            case rel => exact ⟨j + 1, by omega, by go_num, z2, rfl, hz2, by have := HB.out; rw [if_pos rfl] at this; exact this.symm⟩
            case measure => simp [intOf]; omega
          · have hne : ((p : Int) != (q : Int)) = true := by rw [bne_iff_ne]; omega
            go_wp2_with fail
            go_round
            case rel => exact ⟨j + 1, by omega, by go_num, z3, rfl, hz3, by have := HB.out; rw [if_neg hpq] at this; exact this.symm⟩
            case measure => simp [intOf]; omega
        · obtain rfl : j = 8 := by omega
          go_wp2_with fail
          go_round
          case rel =>
            refine ⟨k + 1, by omega, by go_num, z, rfl, ?_⟩
            show _ = _
            have e : l.take (k + 1) = l.take k ++ [l.getD k 0] := by
              rw [List.take_add_one]; simp [List.getD, show k < l.length by omega]
            rw [e, crcRun_append, ← hy.out, hz.out, Nat.mod_eq_of_lt (show d < 2 ^ 8 from hd'), HD.out]
            rfl
          case measure => simp [intOf]; omega
    · obtain rfl : k = n := by omega
      have e := hy.out
      rw [List.take_of_length_le (by omega)] at e
      have f := HF.out
      rw [← e] at f
      clear e hy
      go_wp2_with fail
      go_ret
      exact ⟨rfl, rfl⟩

theorem u32_xor_cast (x y : Nat) (hx : x < 4294967296) (hy : y < 4294967296) : bits BinOp.xor IntKind.u32 (x : Int) (y : Int) = ((x ^^^ y : Nat) : Int) := u32_xor_nat x y hx hy

end Go.Proofs.YtnhkabohccbglaaDoor
