/- Contracts: the document's own answer for CRC-32. It proves no statement. -/
import Derived.Test.YtagolnmkcjbibaaDoorSame
import Derived.Test.YtagolnmkcjbibaaDoorCrcMath
import Derived.Laws.BitsAllLaws
namespace Go.Proofs.YtagolnmkcjbibaaDoor
open Go.RowKit
set_option linter.unusedVariables false
set_option linter.unusedSimpArgs false

theorem u32_poly (x : Nat) (hx : x < 4294967296) : bits BinOp.xor IntKind.u32 (x : Int) 3988292384 = ((x ^^^ crcPoly : Nat) : Int) := u32_xor_nat x crcPoly hx (by decide)
theorem u32_ones (x : Nat) (hx : x < 4294967296) : bits BinOp.xor IntKind.u32 (x : Int) 4294967295 = ((x ^^^ ones32 : Nat) : Int) := u32_xor_nat x ones32 hx (by decide)
theorem u32_low (x : Nat) (hx : x < 4294967296) : bits BinOp.and IntKind.u32 (x : Int) 1 = ((x % 2 : Nat) : Int) := by
  have h := u32_and_nat x 1 hx (by omega)
  rw [nat_mask1] at h
  exact h
theorem u8_low (x : Nat) (hx : x < 256) : bits BinOp.and IntKind.u8 (x : Int) 1 = ((x % 2 : Nat) : Int) := by
  have h := u8_and_nat x 1 hx (by omega)
  rw [nat_mask1] at h
  exact h
theorem int_half (x : Nat) : (x : Int) / 2 = ((x / 2 : Nat) : Int) := by simp
theorem nx_odd (x : Nat) (h : x % 2 = 1) : nx x = x / 2 ^^^ crcPoly := by simp [nx, h]
theorem nx_even (x : Nat) (h : x % 2 = 0) : nx x = x / 2 := by simp [nx, h]

theorem next_any (x : Nat) (w : World) (hx : x < 4294967296) :
    Calls Tryd.prog 25 #[.int .u32 x] w fun e w' => e = .returned (.int .u32 (nx x : Nat)) ∧ w = w' := by
  rcases Nat.mod_two_eq_zero_or_one x with h | h
  · rw [nx_even x h]
    have h1 : ((x : Int) % 2 == 1) = false := by simp; omega
    have h2 := int_half x
    generalize x / 2 = y at h2 ⊢
    clear h
    go_enter Tryd.func25, Tryd.ntmps25
    go_wp2
    go_ret
    exact ⟨rfl, rfl⟩
  · rw [nx_odd x h]
    have h1 : ((x : Int) % 2 == 1) = true := by simp; omega
    have h2 := int_half x
    have h3 := u32_poly (x / 2) (by omega)
    generalize x / 2 = y at h2 h3 ⊢
    generalize y ^^^ crcPoly = z at h3 ⊢
    clear h
    go_enter Tryd.func25, Tryd.ntmps25
    go_wp2
    go_ret
    exact ⟨rfl, rfl⟩

/-- One bit, as it is told there. -/
theorem nx_bit (x d : Nat) (hd : d = 0 ∨ d = 1) : nx (x ^^^ d) = if x % 2 = d then x / 2 else x / 2 ^^^ crcPoly := by
  unfold nx
  rw [xor_half, xor_odd]
  rcases hd with rfl | rfl <;> rcases Nat.mod_two_eq_zero_or_one x with h | h <;> simp [h]

set_option maxHeartbeats 800000 in
theorem radd_any (s : Nat) (A : Option Addr) (n c : Nat) (l : List UInt8) (w : World) (B : Nat) (hs : s < 4294967296) (h : Reads w B A n l) (hn : n ≤ 9223372036854775807) :
    Calls Tryd.prog 14 #[.int .u32 s, .slice A n c] w fun e w' => e = .returned (.int .u32 (crcAdd s l : Nat)) ∧ w = w' := by
  have hl := h.1
  have hx0 := u32_ones s hs
  have hs0 : s ^^^ ones32 < 4294967296 := Nat.xor_lt_two_pow (n := 32) hs (by decide)
  have hrun : ∀ k, crcRun (s ^^^ ones32) (l.take k) < 4294967296 := fun k => crcRun_lt _ _ hs0
  have hfin := u32_ones (crcRun (s ^^^ ones32) l) (crcRun_lt _ _ hs0)
  have hadd : crcRun (s ^^^ ones32) l ^^^ ones32 = crcAdd s l := rfl
  rw [hadd] at hfin
  generalize crcAdd s l = R at hfin ⊢
  generalize s ^^^ ones32 = s0 at hx0 hs0 hrun hfin hadd
  have HR := Lib.hid hrun
  have HF := Lib.hid hfin
  clear hrun hfin hadd
  go_enter Tryd.func14, Tryd.ntmps14
  go_wp2_with fail
  go_loop [5, 6] (fun x i => ∃ k : Nat, k ≤ n ∧ i = .int .i64 k ∧ ∃ y : Nat, x = .int .u32 y ∧ Hid (y = crcRun s0 (l.take k))) (fun _ i => n - (intOf i).toNat)
  case atStart => exact ⟨0, Nat.zero_le _, rfl, s0, rfl, rfl⟩
  case round =>
    obtain ⟨k, hk, rfl, y, rfl, hy⟩ := hrel
    by_cases hlt : k < n
    · obtain ⟨b, o, rfl, hb, hc⟩ := h.at_ (by omega)
      have c1 := hc k hlt
      obtain ⟨d, hd⟩ : ∃ d, d = (l.getD k 0).toNat := ⟨_, rfl⟩
      rw [← hd] at c1
      have hd' : d < 256 := by rw [hd]; exact (l.getD k 0).toNat_lt
      have hyb : y < 4294967296 := by rw [hy.out]; exact HR.out k
      have HD := Lib.hid hd
      clear hc hd
      go_wp2_with fail
      go_loop [5, 7] (fun x i => ∃ j : Nat, j ≤ 8 ∧ i = .int .u64 j ∧ ∃ z : Nat, x = .int .u32 z ∧ z < 4294967296 ∧ Hid (z = nxs j (y ^^^ d % 2 ^ j))) (fun _ i => 8 - (intOf i).toNat)
      case atStart => exact ⟨0, Nat.zero_le _, rfl, y, rfl, hyb, by simp [Hid, nxs, Nat.mod_one]⟩
      case round =>
        obtain ⟨j, hj, rfl, z, rfl, hzb, hz⟩ := hrel
        by_cases hj8 : j < 8
        · have hbit := crcByte_bits y d j hj hd'
          rw [← hz.out, nx_bit z _ (Nat.mod_two_eq_zero_or_one _)] at hbit
          have e1 := u32_low z hzb
          have e2 := int_half z
          have e3 : ((d : Int) / 2 ^ j) = ((d / 2 ^ j : Nat) : Int) := by simp
          have e4 := u8_low (d / 2 ^ j) (Nat.lt_of_le_of_lt (Nat.div_le_self _ _) hd')
          have e5 := u32_poly (z / 2) (by omega)
          have hz2 : z / 2 < 4294967296 := by omega
          have hz3 : z / 2 ^^^ crcPoly < 4294967296 := Nat.xor_lt_two_pow (n := 32) hz2 (by decide)
          have b1 : z % 2 < 2 := by omega
          have b2 : d / 2 ^ j % 2 < 2 := by omega
          generalize d / 2 ^ j % 2 = q at hbit e4 b2
          generalize d / 2 ^ j = q2 at e3 e4
          generalize z % 2 = p at hbit e1 b1
          generalize z / 2 = z2 at hbit e2 e5 hz2 hz3
          generalize z2 ^^^ crcPoly = z3 at hbit e5 hz3
          have HB := Lib.hid hbit
          clear hbit
          by_cases hpq : p = q
          · subst hpq
            go_wp2_with fail
            go_round
            case rel => exact ⟨j + 1, by omega, by go_num, z2, rfl, hz2, by have := HB.out; rw [if_pos rfl] at this; exact this.symm⟩
            case measure => simp [intOf]; omega
          · have hne : ((p : Int) != (q : Int)) = true := by rw [bne_iff_ne]; omega
            go_wp2_with fail
            go_round
            case rel => exact ⟨j + 1, by omega, by go_num, z3, rfl, hz3, by have := HB.out; rw [if_neg hpq] at this; exact this.symm⟩
            case measure => simp [intOf]; omega
        · obtain rfl : j = 8 := by omega
          go_wp2_with fail
          go_round
          case rel =>
            refine ⟨k + 1, by omega, by go_num, z, rfl, ?_⟩
            show _ = _
            have e : l.take (k + 1) = l.take k ++ [l.getD k 0] := by
              rw [List.take_add_one]; simp [List.getD, show k < l.length by omega]
            rw [e, crcRun_append, ← hy.out, hz.out, Nat.mod_eq_of_lt (show d < 2 ^ 8 from hd'), HD.out]
            rfl
          case measure => simp [intOf]; omega
    · obtain rfl : k = n := by omega
      have e := hy.out
      rw [List.take_of_length_le (by omega)] at e
      have f := HF.out
      rw [← e] at f
      clear e hy
      go_wp2_with fail
      go_ret
      exact ⟨rfl, rfl⟩

theorem u32_xor_cast (x y : Nat) (hx : x < 4294967296) (hy : y < 4294967296) : bits BinOp.xor IntKind.u32 (x : Int) (y : Int) = ((x ^^^ y : Nat) : Int) := u32_xor_nat x y hx hy

set_option maxHeartbeats 800000 in
theorem product_any (a b : Nat) (w : World) (ha : a < 4294967296) (hb : b < 4294967296) :
    Calls Tryd.prog 22 #[.int .u32 a, .int .u32 b] w fun e w' => e = .returned (.int .u32 (prodTo a b 32 : Nat)) ∧ w = w' := by
  obtain ⟨R, hR⟩ : ∃ R, R = prodTo a b 32 := ⟨_, rfl⟩
  rw [← hR]
  have HR := Lib.hid hR
  clear hR
  go_enter Tryd.func22, Tryd.ntmps22
  go_wp2_with fail
  go_loop [1, 5, 6] (fun bv x i => ∃ k : Nat, k ≤ 32 ∧ i = .int .i64 (31 - (k : Int)) ∧ (∃ y : Nat, bv = .int .u32 y ∧ y < 4294967296 ∧ Hid (y = nxs k b)) ∧ ∃ z : Nat, x = .int .u32 z ∧ z < 4294967296 ∧ Hid (z = prodTo a b k)) (fun _ _ i => (intOf i + 1).toNat)
  case atStart => exact ⟨0, Nat.zero_le _, by simp, ⟨b, rfl, hb, rfl⟩, 0, rfl, by omega, rfl⟩
  case round =>
    obtain ⟨k, hk, rfl, ⟨y, rfl, hyb, hy⟩, z, rfl, hzb, hz⟩ := hrel
    by_cases hlt : k < 32
    · obtain ⟨j, hj⟩ : ∃ j : Nat, 31 = k + j := ⟨31 - k, by omega⟩
      have hj' : ((31 : Int) - (k : Int)) = (j : Int) := by omega
      rw [hj']
      have hj31 : j ≤ 31 := by omega
      have e3 : ((a : Int) / 2 ^ j) = ((a / 2 ^ j : Nat) : Int) := by simp
      have e4 := u32_low (a / 2 ^ j) (Nat.lt_of_le_of_lt (Nat.div_le_self _ _) ha)
      have ht : a.testBit j = decide (a / 2 ^ j % 2 = 1) := Nat.testBit_eq_decide_div_mod_eq
      have hp : prodTo a b (k + 1) = prodTo a b k ^^^ (if a.testBit (31 - k) = true then nxs k b else 0) := rfl
      rw [show 31 - k = j by omega, ht, ← hz.out, ← hy.out] at hp
      have b2 : a / 2 ^ j % 2 < 2 := by omega
      have hn : nxs (k + 1) b = nx y := by rw [nxs_succ, ← hy.out]
      have hnb := nx_lt y hyb
      have e5 := u32_xor_cast z y hzb hyb
      have hzy : z ^^^ y < 4294967296 := Nat.xor_lt_two_pow (n := 32) hzb hyb
      generalize a / 2 ^ j % 2 = q at hp e4 b2
      generalize a / 2 ^ j = q2 at e3 e4
      generalize hzy2 : z ^^^ y = zy at e5 hzy
      have HZY := Lib.hid hzy2
      clear hzy2
      have nc := next_any y w hyb
      generalize nx y = ny at hn hnb nc
      have HP := Lib.hid hp
      have HN := Lib.hid hn
      have NC := Lib.hid nc
      have J := Lib.hid hj
      clear hp hn nc hj hj' ht
      by_cases hq : q = 1
      · subst hq
        go_wp2_with fail
        refine NC.out.mono ?_
        rintro e w1 ⟨rfl, rfl⟩
        go_wp2_with fail
        have hj := J.out
        go_round
        case rel => exact ⟨k + 1, by omega, by go_num, ⟨ny, rfl, hnb, HN.out.symm⟩, zy, rfl, hzy, by have := HP.out; simp only [decide_true, if_true] at this; exact (this.trans HZY.out).symm⟩
        case measure => simp [intOf]
      · have hq0 : q = 0 := by omega
        subst hq0
        go_wp2_with fail
        refine NC.out.mono ?_
        rintro e w1 ⟨rfl, rfl⟩
        go_wp2_with fail
        have hj := J.out
        go_round
        case rel => exact ⟨k + 1, by omega, by go_num, ⟨ny, rfl, hnb, HN.out.symm⟩, z, rfl, hzb, by have := HP.out; simp at this; exact this.symm⟩
        case measure => simp [intOf]
    · obtain rfl : k = 32 := by omega
      have e := hz.out
      rw [← HR.out] at e
      subst e
      go_wp2_with fail
      go_ret
      exact ⟨rfl, rfl⟩

set_option maxHeartbeats 800000 in
theorem power_small (n : Nat) (w : World) (hn : n ≤ 64) :
    Calls Tryd.prog 23 #[.int .i64 n] w fun e w' => e = .returned (.int .u32 (nxs (8 * n) crcOne : Nat)) ∧ w = w' := by
  obtain ⟨R, hR⟩ : ∃ R, R = nxs (8 * n) crcOne := ⟨_, rfl⟩
  rw [← hR]
  have HR := Lib.hid hR
  clear hR
  have hd : decide ((64 : Int) < n) = false := by simp; omega
  go_enter Tryd.func23, Tryd.ntmps23
  go_wp2_with fail
  go_loop [5, 6] (fun x i => ∃ k : Nat, k ≤ 8 * n ∧ i = .int .i64 k ∧ ∃ y : Nat, x = .int .u32 y ∧ y < 4294967296 ∧ Hid (y = nxs k crcOne)) (fun _ i => 8 * n - (intOf i).toNat)
  case atStart => exact ⟨0, Nat.zero_le _, rfl, crcOne, rfl, by decide, rfl⟩
  case round =>
    obtain ⟨k, hk, rfl, y, rfl, hyb, hy⟩ := hrel
    by_cases hlt : k < 8 * n
    · have hnx : nxs (k + 1) crcOne = nx y := by rw [nxs_succ, ← hy.out]
      have hnb := nx_lt y hyb
      have nc := next_any y w hyb
      generalize nx y = ny at hnx hnb nc
      have HN := Lib.hid hnx
      have NC := Lib.hid nc
      clear hnx nc
      have hlt' : (k : Int) < 8 * (n : Int) := by omega
      go_wp2_with fail
      refine NC.out.mono ?_
      rintro e w1 ⟨rfl, rfl⟩
      go_wp2_with fail
      go_round
      case rel => exact ⟨k + 1, by omega, by go_num, ny, rfl, hnb, HN.out.symm⟩
      case measure => simp [intOf]; omega
    · obtain rfl : k = 8 * n := by omega
      have e := hy.out
      rw [← HR.out] at e
      subst e
      have hlt' : decide (((8 * n : Nat) : Int) < 8 * (n : Int)) = false := by simp
      go_wp2_with fail
      go_ret
      exact ⟨rfl, rfl⟩

set_option maxHeartbeats 800000 in
theorem power_any (k : Nat) : ∀ (n : Nat) (w : World), n ≤ k → n ≤ 9223372036854775807 →
    Calls Tryd.prog 23 #[.int .i64 n] w fun e w' => e = .returned (.int .u32 (nxs (8 * n) crcOne : Nat)) ∧ w = w' := by
  induction k with
  | zero => intro n w hn _; exact power_small n w (by omega)
  | succ k ih =>
    intro n w hn hm
    by_cases h64 : n ≤ 64
    · exact power_small n w h64
    · have i1 := ih (n / 2) w (by omega) (by omega)
      have hb1 : nxs (8 * (n / 2)) crcOne < 4294967296 := nxs_lt _ _ (by decide)
      have p1 := product_any _ _ w hb1 hb1
      rw [prod_nxs _ _ hb1, ← nxs_add] at p1
      have i2 := power_small 1 w (by omega)
      have hb2 : nxs (8 * 1) crcOne < 4294967296 := nxs_lt _ _ (by decide)
      have hb3 : nxs (8 * (n / 2) + 8 * (n / 2)) crcOne < 4294967296 := nxs_lt _ _ (by decide)
      have p2 := product_any _ _ w hb3 hb2
      rw [prod_nxs _ _ hb2, ← nxs_add] at p2
      have hgt : (64 : Int) < (n : Int) := by omega
      have e2 : (n : Int) / 2 = ((n / 2 : Nat) : Int) := by simp
      rcases Nat.mod_two_eq_zero_or_one n with h2 | h2
      · have hr : 8 * (n / 2) + 8 * (n / 2) = 8 * n := by omega
        rw [hr] at p1
        generalize nxs (8 * n) crcOne = R at p1 ⊢
        generalize nxs (8 * (n / 2)) crcOne = h at p1 i1
        have e3 : ((n : Int) % 2 == 1) = false := by simp; omega
        generalize n / 2 = m at e2 i1
        have P1 := Lib.hid p1
        have I1 := Lib.hid i1
        clear p1 i1 p2 i2 hb1 hb2 hb3 hr h2 ih
        go_enter Tryd.func23, Tryd.ntmps23
        go_wp2_with fail
        refine I1.out.mono ?_
        rintro e w1 ⟨rfl, rfl⟩
        go_wp2_with fail
        refine P1.out.mono ?_
        rintro e w1 ⟨rfl, rfl⟩
        go_wp2_with fail
        go_ret
        exact ⟨rfl, rfl⟩
      · have hr : 8 * 1 + (8 * (n / 2) + 8 * (n / 2)) = 8 * n := by omega
        rw [hr] at p2
        generalize nxs (8 * n) crcOne = R at p2 ⊢
        generalize nxs (8 * (n / 2) + 8 * (n / 2)) crcOne = hh at p1 p2
        generalize nxs (8 * (n / 2)) crcOne = h at p1 i1
        generalize nxs (8 * 1) crcOne = o at p2 i2
        have e3 : ((n : Int) % 2 == 1) = true := by simp; omega
        generalize n / 2 = m at e2 i1
        have P1 := Lib.hid p1
        have I1 := Lib.hid i1
        have P2 := Lib.hid p2
        have I2 := Lib.hid i2
        clear p1 i1 p2 i2 hb1 hb2 hb3 hr h2 ih
        go_enter Tryd.func23, Tryd.ntmps23
        go_wp2_with fail
        refine I1.out.mono ?_
        rintro e w1 ⟨rfl, rfl⟩
        go_wp2_with fail
        refine P1.out.mono ?_
        rintro e w1 ⟨rfl, rfl⟩
        go_wp2_with fail
        refine I2.out.mono ?_
        rintro e w1 ⟨rfl, rfl⟩
        go_wp2_with fail
        refine P2.out.mono ?_
        rintro e w1 ⟨rfl, rfl⟩
        go_wp2_with fail
        go_ret
        exact ⟨rfl, rfl⟩

theorem rshift_any (s : Nat) (n : Int) (w : World) (hs : s < 4294967296) (hn : n ≤ 9223372036854775807) :
    Calls Tryd.prog 18 #[.int .u32 s, .int .i64 n] w fun e w' => e = .returned (.int .u32 (crcShift s n.toNat : Nat)) ∧ w = w' := by
  by_cases h : n ≤ 0
  · have e : crcShift s n.toNat = s := by rw [show n.toNat = 0 by omega]; rfl
    rw [e]
    go_enter Tryd.func18, Tryd.ntmps18
    go_wp2_with fail
    go_ret
    exact ⟨rfl, rfl⟩
  · obtain ⟨n, rfl⟩ := Int.eq_ofNat_of_zero_le (show 0 ≤ n by omega)
    rw [Int.toNat_natCast]
    have hd : decide ((n : Int) ≤ 0) = false := by simp; omega
    have p := power_any n n w (Nat.le_refl _) (by omega)
    have q := product_any s (nxs (8 * n) crcOne) w hs (nxs_lt _ _ (by decide))
    rw [prod_shift s _ hs] at q
    have e : nxs (8 * n) s = crcShift s n := rfl
    rw [e] at q
    generalize crcShift s n = R at q ⊢
    generalize nxs (8 * n) crcOne = t at p q
    have P := Lib.hid p
    have Q := Lib.hid q
    clear p q e
    go_enter Tryd.func18, Tryd.ntmps18
    go_wp2_with fail
    refine P.out.mono ?_
    rintro e w1 ⟨rfl, rfl⟩
    go_wp2_with fail
    refine Q.out.mono ?_
    rintro e w1 ⟨rfl, rfl⟩
    go_wp2_with fail
    go_ret
    exact ⟨rfl, rfl⟩
end Go.Proofs.YtagolnmkcjbibaaDoor
