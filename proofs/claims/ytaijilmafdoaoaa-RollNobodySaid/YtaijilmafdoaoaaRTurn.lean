/- Contract: the document's own Turn. It proves no statement. -/
import Derived.Test.YtaijilmafdoaoaaBase
import Derived.Test.YtaijilmafdoaoaaNums
import Derived.Outline
import Derived.Deep.DeepMust
namespace Go.Proofs.Ytaijilmafdoaoaa
open Go.RowKit
set_option linter.unusedVariables false
set_option linter.unusedSimpArgs false

theorem u64_wrap_natT (x : Nat) (h : x < 18446744073709551616) : IntKind.u64.wrap (x : Int) = (x : Int) := by
  rw [IntKind.wrap_u64]; omega
theorem bit_any (x : Nat) (n : Nat) (w : World) (hx : x < 18446744073709551616) (hn : n < 64) :
    Calls Try.prog 27 #[.int .u64 x, .int .i64 n] w fun e w' => e = .returned (.int .u64 (x / 2 ^ n % 2 : Nat)) ∧ w = w' := by
  have he : bits BinOp.and IntKind.u64 (↑x / 2 ^ n) 1 = ((x / 2 ^ n % 2 : Nat) : Int) := by
    have e : ((x : Int) / 2 ^ n) = ((x / 2 ^ n : Nat) : Int) := by simp
    rw [e]
    have := u64_and_nat (x / 2 ^ n) 1 (Nat.lt_of_le_of_lt (Nat.div_le_self _ _) hx) (by omega)
    rw [nat_mask1] at this
    exact this
  have HE := Lib.hid he
  clear he
  go_enter Try.func27, Try.ntmps27
  go_wp2
  go_ret
  exact ⟨congrArg (fun z => Ending.returned (Value.int IntKind.u64 z)) HE.out, rfl⟩

theorem place_any (i o : Nat) (n : Int) (w : World) (hi : i < o) (ho : o = 64 ∨ o = 32) :
    Calls Try.prog 28 #[.int .i64 i, .int .i64 n, .int .i64 o] w fun e w' => e = .returned (.int .i64 (((i + (n % o).toNat) % o : Nat))) ∧ w = w' := by
  obtain ⟨r, hr⟩ : ∃ r, n.tmod (o : Int) = r := ⟨_, rfl⟩
  obtain ⟨q, hq⟩ : ∃ q, ((i : Int) + r).tmod (o : Int) = q := ⟨_, rfl⟩
  have hr1 : -(o : Int) < r ∧ r < o ∧ (n - r) % (o : Int) = 0 := by
    rw [← hr, Int.tmod_eq_emod]
    rcases ho with rfl | rfl <;> split <;> omega
  have hq1 : -(o : Int) < q ∧ q < o ∧ ((i : Int) + r - q) % (o : Int) = 0 := by
    rw [← hq, Int.tmod_eq_emod]
    rcases ho with rfl | rfl <;> split <;> omega
  have hfin : (0 ≤ q → q = (((i + (n % o).toNat) % o : Nat) : Int)) ∧ (q < 0 → q + o = (((i + (n % o).toNat) % o : Nat) : Int)) := by
    obtain ⟨a1, a2, a3⟩ := hr1
    obtain ⟨b1, b2, b3⟩ := hq1
    clear hr hq
    rcases ho with rfl | rfl <;> constructor <;> intro h <;> omega
  obtain ⟨a1, a2, -⟩ := hr1
  obtain ⟨b1, b2, -⟩ := hq1
  have ho' : (o : Int) ≤ 64 := by omega
  have ho0 : 0 < (o : Int) := by omega
  generalize ((i + (n % (o : Int)).toNat) % o) = z at hfin ⊢
  have HF := Lib.hid hfin
  clear hfin ho
  by_cases hneg : q < 0
  · go_enter Try.func28, Try.ntmps28
    go_wp2
    go_ret
    exact ⟨congrArg (fun z => Ending.returned (Value.int IntKind.i64 z)) (HF.out.2 hneg), rfl⟩
  · go_enter Try.func28, Try.ntmps28
    go_wp2
    go_ret
    exact ⟨congrArg (fun z => Ending.returned (Value.int IntKind.i64 z)) (HF.out.1 (by omega)), rfl⟩

set_option maxHeartbeats 400000 in
theorem rturn_any (x o : Nat) (n : Int) (w : World) (ho : o = 64 ∨ o = 32) (hx : x < 2 ^ o) :
    Calls Try.prog 23 #[.int .u64 x, .int .i64 n, .int .i64 o] w fun e w' => e = .returned (.int .u64 (rotl o x (n % o).toNat : Nat)) ∧ w = w' := by
  have hs : (n % (o : Int)).toNat < o := by rcases ho with rfl | rfl <;> omega
  have hx64 : x < 18446744073709551616 := by rcases ho with rfl | rfl <;> omega
  have hall := turnTo_all o x (n % (o : Int)).toNat hx hs
  have hlt := fun k => turnTo_lt o x (n % (o : Int)).toNat k (by omega)
  have ho64 : o ≤ 64 := by omega
  have hpl : ∀ (i : Nat) (w : World), i < o → Calls Try.prog 28 #[.int .i64 i, .int .i64 n, .int .i64 o] w fun e w' => e = .returned (.int .i64 (((i + (n % o).toNat) % o : Nat))) ∧ w = w' := fun i w hi => place_any i o n w hi ho
  have hmod : ∀ i, (i + (n % (o : Int)).toNat) % o < o := fun i => Nat.mod_lt _ (by omega)
  have hP : (2 : Nat) ^ o ≤ 18446744073709551616 := by rcases ho with rfl | rfl <;> omega
  generalize (n % (o : Int)).toNat = s at *
  generalize hR : rotl o x s = R at *
  have HP := Lib.hid hpl
  have HM := Lib.hid hmod
  have HA := Lib.hid hall
  have HL := Lib.hid hlt
  have H2 := Lib.hid hP
  have HX := Lib.hid hx
  clear hpl hmod hall hlt hP hx hR ho
  go_enter Try.func23, Try.ntmps23
  go_wp2_with fail
  go_loop [7, 8] (fun yv i => ∃ k : Nat, k ≤ o ∧ i = .int .i64 k ∧ ∃ y : Nat, yv = .int .u64 y ∧ Hid (y = turnTo o x s k)) (fun _ i => o - (intOf i).toNat)
  case atStart => exact ⟨0, Nat.zero_le _, rfl, 0, rfl, rfl⟩
  case round =>
    obtain ⟨k, hk, rfl, y, rfl, hy⟩ := hrel
    by_cases hlt : k < o
    · have hyb : y < 18446744073709551616 := by rw [hy.out]; exact Nat.lt_of_lt_of_le (HL.out k) H2.out
      go_wp2_with fail
      refine (bit_any x k w hx64 (by omega)).mono ?_
      rintro e w1 ⟨rfl, rfl⟩
      obtain ⟨d, hd⟩ : ∃ d, d = x / 2 ^ k % 2 := ⟨_, rfl⟩
      rw [← hd]
      have hd2 : d < 2 := by omega
      have HD := Lib.hid hd
      clear hd
      go_wp2_with fail
      refine (HP.out k w hlt).mono ?_
      rintro e w1 ⟨rfl, rfl⟩
      obtain ⟨p, hp⟩ : ∃ p, p = (k + s) % o := ⟨_, rfl⟩
      rw [← hp]
      have hp2 : p < 64 := by rw [hp]; exact Nat.lt_of_lt_of_le (HM.out k) ho64
      have HPP := Lib.hid hp
      clear hp
      go_wp2_with fail
      go_round
      case rel =>
        refine ⟨k + 1, by omega, by go_num, turnTo o x s (k + 1), ?_, rfl⟩
        have h1 : d * 2 ^ p < 2 ^ 64 := by
          refine Nat.lt_of_le_of_lt (Nat.mul_le_mul_right _ (show d ≤ 1 by omega)) ?_
          rw [Nat.one_mul]
          exact Nat.pow_lt_pow_right (by omega) hp2
        have e1 : IntKind.u64.wrap ((d : Int) * 2 ^ p) = ((d * 2 ^ p : Nat) : Int) := by
          have e0 : (d : Int) * 2 ^ p = ((d * 2 ^ p : Nat) : Int) := by simp
          rw [e0, u64_wrap_natT _ h1]
        rw [e1, u64_or_nat y _ hyb h1, turnTo, ← HD.out, ← HPP.out, ← hy.out]
      case measure => simp [intOf]; omega
    · obtain rfl : k = o := by omega
      have e := hy.out
      rw [HA.out] at e
      subst e
      go_wp2_with fail
      go_ret
      exact ⟨rfl, rfl⟩
end Go.Proofs.Ytaijilmafdoaoaa
