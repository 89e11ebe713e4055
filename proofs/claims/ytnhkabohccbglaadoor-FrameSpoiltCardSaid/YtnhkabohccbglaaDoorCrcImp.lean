/- Contracts: the program's CRC-32, over a world in which its two tables hold what the program's text lays. It proves no statement. -/
import Derived.Test.YtnhkabohccbglaaDoorCrcRef
import Derived.Deep.LoopGhost
import Derived.Lib.LaidTab
import Derived.BigQuiet
import Derived.Laws.Bits128
import Derived.BigFrame
namespace Go.Proofs.YtnhkabohccbglaaDoor
open Go.RowKit
set_option linter.unusedVariables false
set_option linter.unusedSimpArgs false

/-! ### Plain facts -/
def lowT : List Int := [0, 1996959894, 3993919788, 2567524794, 124634137, 1886057615, 3915621685, 2657392035, 249268274, 2044508324, 3772115230, 2547177864, 162941995, 2125561021, 3887607047, 2428444049]
def highT : List Int := [0, 498536548, 997073096, 651767980, 1994146192, 1802195444, 1303535960, 1342533948, 3988292384, 4027552580, 3604390888, 3412177804, 2607071920, 2262029012, 2685067896, 3183342108]
def lowN (i : Nat) : Nat := (lowT.getD i 0).toNat
def highN (i : Nat) : Nat := (highT.getD i 0).toNat
theorem lowN_lt (i : Nat) (h : i < 16) : lowN i < 4294967296 := (show ∀ i, i < 16 → lowN i < 4294967296 by decide +kernel) i h
theorem highN_lt (i : Nat) (h : i < 16) : highN i < 4294967296 := (show ∀ i, i < 16 → highN i < 4294967296 by decide +kernel) i h
theorem lowT_cast (i : Nat) (h : i < 16) : lowT.getD i 0 = (lowN i : Int) := (show ∀ i, i < 16 → lowT.getD i 0 = (lowN i : Int) by decide +kernel) i h
theorem highT_cast (i : Nat) (h : i < 16) : highT.getD i 0 = (highN i : Int) := (show ∀ i, i < 16 → highT.getD i 0 = (highN i : Int) by decide +kernel) i h
theorem tab_byte (y : Nat) (h : y < 256) : nxs 8 y = lowN (y % 16) ^^^ highN (y / 16) := (show ∀ y, y < 256 → nxs 8 y = lowN (y % 16) ^^^ highN (y / 16) by decide +kernel) y h
theorem nx_double (x : Nat) : nx (2 * x) = x := by
  unfold nx
  rw [show 2 * x % 2 = 0 by omega, show 2 * x / 2 = x by omega]
  simp
theorem nxs_up (k x : Nat) : nxs k (2 ^ k * x) = x := by
  induction k generalizing x with
  | zero => simp [nxs]
  | succ k ih => rw [nxs, Nat.pow_succ, Nat.mul_comm (2 ^ k) 2, Nat.mul_assoc, nx_double, ih]
/-- A register's lowest byte parted from the rest. -/
theorem xor_parts (k x : Nat) : x = 2 ^ k * (x / 2 ^ k) ^^^ x % 2 ^ k := by
  apply Nat.eq_of_testBit_eq
  intro i
  rw [Nat.testBit_xor, Nat.mul_comm, Nat.testBit_mul_two_pow, Nat.testBit_mod_two_pow, Nat.testBit_div_two_pow]
  by_cases hi : i < k
  · simp [hi, show ¬ k ≤ i by omega]
  · simp [hi, show k ≤ i by omega, show i - k + k = i by omega]
theorem xor_div_pow (k x y : Nat) : (x ^^^ y) / 2 ^ k = x / 2 ^ k ^^^ y / 2 ^ k := by
  apply Nat.eq_of_testBit_eq
  intro i
  simp [Nat.testBit_div_two_pow]
theorem xor_mod_pow (k x y : Nat) : (x ^^^ y) % 2 ^ k = x % 2 ^ k ^^^ y % 2 ^ k := by
  apply Nat.eq_of_testBit_eq
  intro i
  rw [Nat.testBit_xor, Nat.testBit_mod_two_pow, Nat.testBit_mod_two_pow, Nat.testBit_mod_two_pow, Nat.testBit_xor]
  cases decide (i < k) <;> simp
/-- One byte by the two tables. -/
theorem crcByte_tab (r : Nat) (b : UInt8) (y : Nat) (hy : y = b.toNat ^^^ r % 256) : crcByte r b = r / 256 ^^^ lowN (y % 16) ^^^ highN (y / 16) := by
  have hb : b.toNat < 256 := b.toNat_lt
  have hy' : y < 256 := by rw [hy]; exact Nat.xor_lt_two_pow (n := 8) hb (Nat.mod_lt _ (by decide))
  unfold crcByte
  have e := xor_parts 8 (r ^^^ b.toNat)
  have e1 : (r ^^^ b.toNat) / 2 ^ 8 = r / 256 := by
    rw [xor_div_pow, Nat.div_eq_of_lt (show b.toNat < 2 ^ 8 from hb), Nat.xor_zero]
  have e2 : (r ^^^ b.toNat) % 2 ^ 8 = y := by
    rw [xor_mod_pow, Nat.mod_eq_of_lt (show b.toNat < 2 ^ 8 from hb), hy, Nat.xor_comm]
  rw [e1, e2] at e
  rw [e, nxs_xor, nxs_up, tab_byte y hy', Nat.xor_assoc]

/-! ### The tables in memory -/
structure Tabs (w : World) : Prop where
  low : ∀ i, i < 16 → w.cell? ⟨0, i, none⟩ = some (.int .u32 (lowN i : Int))
  high : ∀ i, i < 16 → w.cell? ⟨1, i, none⟩ = some (.int .u32 (highN i : Int))
theorem lt_of_cell {w : World} {b i : Nat} {v : Value} (h : w.cell? ⟨b, i, none⟩ = some v) : b < w.heap.size := block_lt_of_cell h
theorem Tabs.still {w w' : World} (h : Tabs w) (s : Still w w') : Tabs w' :=
  ⟨fun i hi => (s.cell (lt_of_cell (h.low i hi))).trans (h.low i hi), fun i hi => (s.cell (lt_of_cell (h.high i hi))).trans (h.high i hi)⟩
theorem Tabs.drew {w : World} (h : Tabs w) : Tabs w.drew := h.still ((Still.refl w).drew)

theorem Still.drewN {w w' : World} (h : Still w w') (n : Nat) : Still w (w'.drewN n) := by
  induction n with
  | zero => exact h
  | succ n ih => exact ih.drew
theorem u32_flip (x : Nat) (hx : x < 4294967296) : bits BinOp.xor IntKind.u32 IntKind.u32.max (x : Int) = ((x ^^^ ones32 : Nat) : Int) := by
  have h := u32_xor_nat ones32 x (by decide) hx
  rw [Nat.xor_comm] at h
  exact h
theorem u8_cast (x : Nat) : IntKind.u8.wrap (x : Int) = ((x % 256 : Nat) : Int) := by rw [IntKind.wrap_u8']; omega

set_option maxHeartbeats 1600000 in
theorem crcadd_any (s : Nat) (A : Option Addr) (n c : Nat) (l : List UInt8) (w : World) (B : Nat) (T : Tabs w) (hs : s < 4294967296) (h : Reads w B A n l) (hB : B ≤ w.heap.size) (hn : n ≤ 9223372036854775807) :
    Calls Tryd.prog 45 #[.int .u32 s, .slice A n c] w fun e w' => e = .returned (.int .u32 (crcAdd s l : Nat)) ∧ Still w w' := by
  have hl := h.1
  have sg : IntKind.u32.signed = false := rfl
  have hx0 := u32_flip s hs
  have hs0 : s ^^^ ones32 < 4294967296 := Nat.xor_lt_two_pow (n := 32) hs (by decide)
  have hrun : ∀ k, crcRun (s ^^^ ones32) (l.take k) < 4294967296 := fun k => crcRun_lt _ _ hs0
  have hfin := u32_flip (crcRun (s ^^^ ones32) l) (crcRun_lt _ _ hs0)
  have hadd : crcRun (s ^^^ ones32) l ^^^ ones32 = crcAdd s l := rfl
  rw [hadd] at hfin
  generalize crcAdd s l = R at hfin ⊢
  generalize s ^^^ ones32 = s0 at hx0 hs0 hrun hfin hadd
  have HR := Lib.hid hrun
  have HF := Lib.hid hfin
  have TT := Lib.hid T
  clear hrun hfin hadd T
  go_enter Tryd.func45, Tryd.ntmps45
  go_wp2_with fail
  go_loopw [5, 12] (fun x i wr => ∃ k : Nat, k ≤ n ∧ i = .int .i64 k ∧ Still w wr ∧ ∃ y : Nat, x = .int .u32 y ∧ Hid (y = crcRun s0 (l.take k))) (fun _ i _ => n - (intOf i).toNat)
  case atStart => exact ⟨0, Nat.zero_le _, rfl, Still.refl w, s0, rfl, rfl⟩
  case round =>
    obtain ⟨k, hk, rfl, st, y, rfl, hy⟩ := hrel
    by_cases hlt : k < n
    · obtain ⟨b, o, rfl, hb, hc0⟩ := h.at_ (by omega)
      have hc := ((st.cell (p := ⟨b, o + k, none⟩) (by simp; omega)).trans (hc0 k hlt))
      have T := TT.out.still st
      obtain ⟨d, hd⟩ : ∃ d, d = (l.getD k 0).toNat := ⟨_, rfl⟩
      rw [← hd] at hc
      have hd' : d < 256 := by rw [hd]; exact (l.getD k 0).toNat_lt
      have hyb : y < 4294967296 := by rw [hy.out]; exact HR.out k
      have e1 := u8_cast y
      have e2 := u8_xor_nat d (y % 256) hd' (Nat.mod_lt _ (by decide))
      have hz : d ^^^ y % 256 < 256 := Nat.xor_lt_two_pow (n := 8) hd' (Nat.mod_lt _ (by decide))
      have hbyte := crcByte_tab y (l.getD k 0) _ rfl
      rw [← hd] at hbyte
      generalize y % 256 = y8 at e1 e2 hz hbyte
      generalize d ^^^ y8 = z at e2 hz hbyte
      have e3 : ((y : Int) / 256) = ((y / 256 : Nat) : Int) := by simp
      have e4 : bits BinOp.and IntKind.u8 (z : Int) 15 = ((z % 16 : Nat) : Int) := by
        have := u8_and_nat z 15 hz (by omega)
        rw [nat_mask4] at this
        exact this
      have e5 : ((z : Int) / 16) = ((z / 16 : Nat) : Int) := by simp
      have i1 : z % 16 < 16 := by omega
      have i2 : z / 16 < 16 := by omega
      have hyq : y / 256 < 4294967296 := by omega
      generalize z % 16 = p at e4 i1 hbyte
      generalize z / 16 = q at e5 i2 hbyte
      generalize y / 256 = yq at e3 hyq hbyte
      have c1 := T.low p i1
      have c2 := T.high q i2
      have l1 := lowN_lt p i1
      have l2 := highN_lt q i2
      generalize lowN p = lp at c1 l1 hbyte
      generalize highN q = hq at c2 l2 hbyte
      have e6 := u32_xor_nat yq lp hyq l1
      have hx1 : yq ^^^ lp < 4294967296 := Nat.xor_lt_two_pow (n := 32) hyq l1
      generalize yq ^^^ lp = x1 at e6 hx1 hbyte
      have e7 := u32_xor_nat x1 hq hx1 l2
      generalize x1 ^^^ hq = x2 at e7 hbyte
      have j1 : (p : Int) < 16 := by omega
      have j2 : (q : Int) < 16 := by omega
      have HB := Lib.hid hbyte
      have ST := Lib.hid st
      clear hbyte T hd hc0 st
      go_wp2_with fail
      go_quiet (fail)
      go_wp2_with fail
      go_roundw
      case rel =>
        refine ⟨k + 1, by omega, by go_num, ?_, x2, rfl, ?_⟩
        · exact Still.drewN ST.out nq
        · show _ = _
          have e : l.take (k + 1) = l.take k ++ [l.getD k 0] := by
            rw [List.take_add_one]; simp [List.getD, show k < l.length by omega]
          rw [e, crcRun_append, ← hy.out]
          exact HB.out.symm
      case measure => simp [intOf]; omega
    · obtain rfl : k = n := by omega
      have e := hy.out
      rw [List.take_of_length_le (by omega)] at e
      have f := HF.out
      rw [← e] at f
      clear e hy
      go_wp2_with fail
      go_ret
      exact ⟨rfl, st⟩

theorem crcsum_any (A : Option Addr) (n c : Nat) (l : List UInt8) (w : World) (B : Nat) (T : Tabs w) (h : Reads w B A n l) (hB : B ≤ w.heap.size) (hn : n ≤ 9223372036854775807) :
    Calls Tryd.prog 32 #[.slice A n c] w fun e w' => e = .returned (.int .u32 (crcSum l : Nat)) ∧ Still w w' := by
  have k := crcadd_any 0 A n c l w B T (by omega) h hB hn
  have e : crcAdd 0 l = crcSum l := rfl
  rw [e] at k
  generalize crcSum l = R at k ⊢
  have K := Lib.hid k
  clear k e
  go_enter Tryd.func32, Tryd.ntmps32
  go_wp2_with fail
  refine K.out.mono ?_
  rintro e w1 ⟨rfl, s1⟩
  go_wp2_with fail
  go_ret
  exact ⟨rfl, s1⟩

theorem timesX_any (x : Nat) (w : World) (hx : x < 4294967296) :
    Calls Tryd.prog 54 #[.int .u32 x] w fun e w' => e = .returned (.int .u32 (nx x : Nat)) ∧ w = w' := by
  have h0 := u32_low x hx
  rcases Nat.mod_two_eq_zero_or_one x with h | h
  · rw [nx_even x h]
    rw [h] at h0
    have h2 := int_half x
    generalize x / 2 = y at h2 ⊢
    clear h
    go_enter Tryd.func54, Tryd.ntmps54
    go_wp2_with fail
    go_ret
    exact ⟨rfl, rfl⟩
  · rw [nx_odd x h]
    rw [h] at h0
    have h2 := int_half x
    have h3 := u32_poly (x / 2) (by omega)
    generalize x / 2 = y at h2 h3 ⊢
    generalize y ^^^ crcPoly = z at h3 ⊢
    clear h
    go_enter Tryd.func54, Tryd.ntmps54
    go_wp2_with fail
    go_ret
    exact ⟨rfl, rfl⟩

/-- What is shifted out leaves no coefficient behind. -/
theorem prodTo_end (b a k : Nat) (hb : b < 4294967296) (hk : k ≤ 32) (h : b * 2 ^ k % 4294967296 = 0) : prodTo b a k = prodTo b a 32 := by
  have step : ∀ j, prodTo b a k = prodTo b a (k + j) ∨ 32 < k + j := by
    intro j
    induction j with
    | zero => exact .inl rfl
    | succ j ih =>
      by_cases hj : k + (j + 1) ≤ 32
      · rcases ih with ih | ih
        · left
          rw [show k + (j + 1) = (k + j) + 1 by omega, prodTo, ← ih]
          have : b.testBit (31 - (k + j)) = false := by
            have e : (b * 2 ^ k % 2 ^ 32).testBit (31 - j) = false := by
              rw [show (2 : Nat) ^ 32 = 4294967296 by rfl, h]; simp
            rw [Nat.testBit_mod_two_pow, Nat.testBit_mul_two_pow] at e
            simpa [show 31 - j < 32 by omega, show k ≤ 31 - j by omega, show 31 - j - k = 31 - (k + j) by omega] using e
          rw [this]
          simp
        · omega
      · right; omega
  rcases step (32 - k) with h | h
  · rwa [show k + (32 - k) = 32 by omega] at h
  · omega
theorem top_bit (b k : Nat) (hk : k < 32) : (b * 2 ^ k % 4294967296) / 2147483648 = if b.testBit (31 - k) = true then 1 else 0 := by
  have e : (b * 2 ^ k % 2 ^ 32).testBit 31 = b.testBit (31 - k) := by
    rw [Nat.testBit_mod_two_pow, Nat.testBit_mul_two_pow]
    simp [show k ≤ 31 by omega]
  have hlt : b * 2 ^ k % 4294967296 < 4294967296 := Nat.mod_lt _ (by decide)
  rw [show (2 : Nat) ^ 32 = 4294967296 by rfl, Nat.testBit_eq_decide_div_mod_eq] at e
  generalize b * 2 ^ k % 4294967296 = x at e hlt ⊢
  rw [← e, show (2 : Nat) ^ 31 = 2147483648 by rfl]
  have : x / 2147483648 < 2 := by omega
  by_cases h : x / 2147483648 % 2 = 1
  · simp [h]; omega
  · simp [h]; omega
theorem shl_next (b k : Nat) : (b * 2 ^ k % 4294967296) * 2 % 4294967296 = b * 2 ^ (k + 1) % 4294967296 := by
  rw [Nat.pow_succ, ← Nat.mul_assoc, Nat.mod_mul_mod]

set_option maxHeartbeats 1600000 in
theorem times_any (a b : Nat) (w : World) (ha : a < 4294967296) (hb : b < 4294967296) :
    Calls Tryd.prog 53 #[.int .u32 a, .int .u32 b] w fun e w' => e = .returned (.int .u32 (prodTo b a 32 : Nat)) ∧ w = w' := by
  obtain ⟨R, hR⟩ : ∃ R, R = prodTo b a 32 := ⟨_, rfl⟩
  rw [← hR]
  have HR := Lib.hid hR
  clear hR
  go_enter Tryd.func53, Tryd.ntmps53
  go_wp2_with fail
  go_loopg [0, 1, 5] 32 (fun g av bv pv wr => wr = w ∧ ∃ k : Nat, k ≤ 32 ∧ g = 32 - k ∧ (∃ y : Nat, av = .int .u32 y ∧ y < 4294967296 ∧ Hid (y = nxs k a)) ∧ (∃ x : Nat, bv = .int .u32 x ∧ x < 4294967296 ∧ Hid (x = b * 2 ^ k % 4294967296)) ∧ ∃ z : Nat, pv = .int .u32 z ∧ z < 4294967296 ∧ Hid (z = prodTo b a k))
  case atStart => exact ⟨rfl, 0, by omega, by omega, ⟨a, rfl, ha, rfl⟩, ⟨b, rfl, hb, by show b = _; rw [Nat.pow_zero, Nat.mul_one, Nat.mod_eq_of_lt hb]⟩, 0, rfl, by omega, rfl⟩
  case round =>
    obtain ⟨rfl, k, hk, rfl, ⟨y, rfl, hyb, hy⟩, ⟨x, rfl, hxb, hx⟩, z, rfl, hzb, hz⟩ := hrel
    by_cases hx0 : x = 0
    · subst hx0
      have e := prodTo_end b a k hb hk hx.out.symm
      rw [← hz.out, ← HR.out] at e
      subst e
      go_wp2_with fail
      go_ret
      exact ⟨rfl, rfl⟩
    · have hk32 : k < 32 := by
        rcases Nat.lt_or_ge k 32 with h | h
        · exact h
        · obtain rfl : k = 32 := by omega
          have := hx.out
          rw [show (2 : Nat) ^ 32 = 4294967296 by rfl, Nat.mul_mod_left] at this
          exact absurd this hx0
      have ht := top_bit b k hk32
      have hs := shl_next b k
      rw [← hx.out] at ht hs
      have hp : prodTo b a (k + 1) = prodTo b a k ^^^ (if b.testBit (31 - k) = true then nxs k a else 0) := rfl
      rw [← hz.out, ← hy.out] at hp
      have hn : nxs (k + 1) a = nx y := by rw [nxs_succ, ← hy.out]
      have hnb := nx_lt y hyb
      have e1 : ((x : Int) / 2147483648) = ((x / 2147483648 : Nat) : Int) := by simp
      have e2 : IntKind.u32.wrap ((x : Int) * 2) = ((x * 2 % 4294967296 : Nat) : Int) := by rw [IntKind.wrap_u32']; omega
      have hne : ((x : Int) != 0) = true := by rw [bne_iff_ne]; omega
      have e5 := u32_xor_cast z y hzb hyb
      have hzy : z ^^^ y < 4294967296 := Nat.xor_lt_two_pow (n := 32) hzb hyb
      have hx2 : x * 2 % 4294967296 < 4294967296 := Nat.mod_lt _ (by decide)
      rw [ht] at e1
      generalize x * 2 % 4294967296 = x' at e2 hs hx2
      generalize hzy2 : z ^^^ y = zy at e5 hzy
      have HZY := Lib.hid hzy2
      have nc := timesX_any y wr hyb
      generalize nx y = ny at hn hnb nc
      have HP := Lib.hid hp
      have HN := Lib.hid hn
      have NC := Lib.hid nc
      have HS := Lib.hid hs
      clear hp hn nc ht hs hzy2
      cases hbit : b.testBit (31 - k)
      · rw [hbit] at e1
        simp only [Bool.false_eq_true, if_false] at e1
        have HBIT := Lib.hid hbit
        clear hbit
        go_wp2_with fail
        refine NC.out.mono ?_
        rintro e w1 ⟨rfl, rfl⟩
        go_wp2_with fail
        go_roundg (32 - (k + 1))
        case measure => omega
        case rel => exact ⟨rfl, k + 1, by omega, rfl, ⟨ny, rfl, hnb, HN.out.symm⟩, ⟨x', rfl, hx2, HS.out⟩, z, rfl, hzb, by have := HP.out; rw [HBIT.out] at this; simp at this; exact this.symm⟩
      · rw [hbit] at e1
        simp only [if_true] at e1
        have HBIT := Lib.hid hbit
        clear hbit
        go_wp2_with fail
        refine NC.out.mono ?_
        rintro e w1 ⟨rfl, rfl⟩
        go_wp2_with fail
        go_roundg (32 - (k + 1))
        case measure => omega
        case rel => exact ⟨rfl, k + 1, by omega, rfl, ⟨ny, rfl, hnb, HN.out.symm⟩, ⟨x', rfl, hx2, HS.out⟩, zy, rfl, hzy, by have := HP.out; rw [HBIT.out] at this; simp only [if_true] at this; exact (this.trans HZY.out).symm⟩

theorem i64_and1 (n : Int) : bits .and .i64 n 1 = n % 2 := by
  have h1 : (BitVec.ofInt 64 1).toNat = 2 ^ 1 - 1 := by decide
  have key : (BitVec.ofInt 64 n &&& BitVec.ofInt 64 1).toNat = (n % ((2 ^ 64 : Nat) : Int)).toNat % 2 ^ 1 := by
    rw [BitVec.toNat_and, BitVec.toNat_ofInt, h1, Nat.and_two_pow_sub_one_eq_mod]
  show IntKind.i64.wrap ((BitVec.ofInt 64 n &&& BitVec.ofInt 64 1).toNat : Nat) = n % 2
  rw [key, IntKind.wrap_i64]
  omega
theorem nxs_move : nxs 8 crcOne = 8388608 := by decide +kernel
theorem times_move (s m : Nat) (w : World) (hs : s < 4294967296) :
    Calls Tryd.prog 53 #[.int .u32 s, .int .u32 (nxs m crcOne : Nat)] w fun e w' => e = .returned (.int .u32 (nxs m s : Nat)) ∧ w = w' := by
  have h := times_any s (nxs m crcOne) w hs (nxs_lt _ _ (by decide))
  rwa [prod_nxs m s hs] at h

set_option maxHeartbeats 1600000 in
theorem crcshift_any (s : Nat) (n : Int) (w : World) (hs : s < 4294967296) (hn : n ≤ 9223372036854775807) :
    Calls Tryd.prog 52 #[.int .u32 s, .int .i64 n] w fun e w' => e = .returned (.int .u32 (crcShift s n.toNat : Nat)) ∧ Still w w' := by
  by_cases h0 : n ≤ 0
  · have e : crcShift s n.toNat = s := by rw [show n.toNat = 0 by omega]; rfl
    rw [e]
    have hd : decide ((0 : Int) < n) = false := by simp; omega
    go_enter Tryd.func52, Tryd.ntmps52
    go_wp2_with fail
    go_loopg [0, 1, 5] 0 (fun g sv nv mv wr => wr = w ∧ sv = .int .u32 s ∧ nv = .int .i64 n)
    case atStart => exact ⟨rfl, rfl, rfl⟩
    case round =>
      obtain ⟨rfl, rfl, rfl⟩ := hrel
      go_wp2_with fail
      go_ret
      exact ⟨rfl, Still.refl _⟩
  · obtain ⟨n, rfl⟩ := Int.eq_ofNat_of_zero_le (show 0 ≤ n by omega)
    rw [Int.toNat_natCast]
    obtain ⟨R, hR⟩ : ∃ R, R = crcShift s n := ⟨_, rfl⟩
    rw [← hR]
    have HR := Lib.hid hR
    have HN := Lib.hid hn
    clear hR h0
    go_enter Tryd.func52, Tryd.ntmps52
    go_wp2_with fail
    go_loopg [0, 1, 5] n (fun g sv nv mv wr => wr = w ∧ ∃ m : Nat, g ≤ n ∧ nv = .int .i64 g ∧ (∃ y : Nat, mv = .int .u32 y ∧ y < 4294967296 ∧ Hid (y = nxs m crcOne)) ∧ ∃ x : Nat, sv = .int .u32 x ∧ x < 4294967296 ∧ Hid (nxs (m * g) x = R))
    case atStart => exact ⟨rfl, 8, Nat.le_refl _, rfl, ⟨8388608, rfl, by decide, nxs_move.symm⟩, s, rfl, hs, HR.out.symm⟩
    case round =>
      obtain ⟨rfl, m, hgn, rfl, ⟨y, rfl, hyb, hy⟩, x, rfl, hxb, hx⟩ := hrel
      by_cases hg0 : gk = 0
      · subst hg0
        have e := hx.out
        rw [Nat.mul_zero] at e
        obtain rfl : x = R := e
        go_wp2_with fail
        go_ret
        exact ⟨rfl, Still.refl _⟩
      · have hd : (0 : Int) < (gk : Int) := by omega
        have h2 := i64_and1 (gk : Int)
        have e3 : (gk : Int) / 2 = ((gk / 2 : Nat) : Int) := by simp
        have hhalf : gk / 2 < gk := by omega
        have t1 := times_move x m wr hxb
        have t2 := times_move (nxs m crcOne) m wr (nxs_lt _ _ (by decide))
        rw [← nxs_add, ← hy.out] at t2
        rw [← hy.out] at t1
        have hb1 : nxs m x < 4294967296 := nxs_lt _ _ hxb
        have hb2 : nxs (m + m) crcOne < 4294967296 := nxs_lt _ _ (by decide)
        obtain ⟨y2, hy2⟩ : ∃ y2, y2 = nxs (m + m) crcOne := ⟨_, rfl⟩
        obtain ⟨x2, hx2⟩ : ∃ x2, x2 = nxs m x := ⟨_, rfl⟩
        rw [← hy2] at t2 hb2
        rw [← hx2] at t1 hb1
        have Y2 := Lib.hid hy2
        have X2 := Lib.hid hx2
        have T1 := Lib.hid t1
        have T2 := Lib.hid t2
        clear hy2 hx2 t1 t2
        rcases Nat.mod_two_eq_zero_or_one gk with hm | hm
        · have e4 : (gk : Int) % 2 = 0 := by omega
          rw [e4] at h2
          have hk : m * gk = (m + m) * (gk / 2) := by
            rw [← Nat.mul_two, Nat.mul_assoc, show 2 * (gk / 2) = gk by omega]
          generalize gk / 2 = h at e3 hk hhalf
          have HK := Lib.hid hk
          have HG := Lib.hid hhalf
          have HGN := Lib.hid hgn
          clear hk hm hg0 e4 hhalf
          go_wp2_with fail
          refine T2.out.mono ?_
          rintro e w1 ⟨rfl, rfl⟩
          go_wp2_with fail
          have hg0 := HG.out
          have hgn := HGN.out
          go_roundg h
          case measure => exact hg0
          case rel => exact ⟨rfl, m + m, by omega, rfl, ⟨y2, rfl, hb2, Y2.out⟩, x, rfl, hxb, by show _ = _; rw [← HK.out]; exact hx.out⟩
        · have e4 : (gk : Int) % 2 = 1 := by omega
          rw [e4] at h2
          have hk : m * gk = m + (m + m) * (gk / 2) := by
            have : gk = 1 + 2 * (gk / 2) := by omega
            rw [← Nat.mul_two, Nat.mul_assoc]
            conv => lhs; rw [this, Nat.mul_add, Nat.mul_one]
          generalize gk / 2 = h at e3 hk hhalf
          have HK := Lib.hid hk
          have HG := Lib.hid hhalf
          have HGN := Lib.hid hgn
          clear hk hm hg0 e4 hhalf
          go_wp2_with fail
          refine T1.out.mono ?_
          rintro e w1 ⟨rfl, rfl⟩
          go_wp2_with fail
          refine T2.out.mono ?_
          rintro e w1 ⟨rfl, rfl⟩
          go_wp2_with fail
          have hg0 := HG.out
          have hgn := HGN.out
          go_roundg h
          case measure => exact hg0
          case rel => exact ⟨rfl, m + m, by omega, rfl, ⟨y2, rfl, hb2, Y2.out⟩, x2, rfl, hb1, by show _ = _; rw [X2.out, ← nxs_add, ← HK.out]; exact hx.out⟩

theorem crcjoin_any (s t : Nat) (n : Int) (w : World) (hs : s < 4294967296) (ht : t < 4294967296) (hn : n ≤ 9223372036854775807) :
    Calls Tryd.prog 50 #[.int .u32 s, .int .u32 t, .int .i64 n] w fun e w' => e = .returned (.int .u32 (crcShift s n.toNat ^^^ t : Nat)) ∧ Still w w' := by
  have k := crcshift_any s n w hs hn
  have hb := crcShift_lt s n.toNat hs
  generalize crcShift s n.toNat = R at k hb ⊢
  have hx := u32_xor_cast R t hb ht
  generalize R ^^^ t = Q at hx ⊢
  have K := Lib.hid k
  clear k
  go_enter Tryd.func50, Tryd.ntmps50
  go_wp2_with fail
  refine K.out.mono ?_
  rintro e w1 ⟨rfl, s1⟩
  go_wp2_with fail
  go_ret
  exact ⟨rfl, s1⟩
theorem rsum_any (A : Option Addr) (n c : Nat) (l : List UInt8) (w : World) (B : Nat) (h : Reads w B A n l) (hn : n ≤ 9223372036854775807) :
    Calls Tryd.prog 34 #[.slice A n c] w fun e w' => e = .returned (.int .u32 (crcSum l : Nat)) ∧ w = w' := by
  have k := radd_any 0 A n c l w B (by omega) h hn
  have e : crcAdd 0 l = crcSum l := rfl
  rw [e] at k
  generalize crcSum l = R at k ⊢
  have K := Lib.hid k
  clear k e
  go_enter Tryd.func34, Tryd.ntmps34
  go_wp2_with fail
  refine K.out.mono ?_
  rintro e w1 ⟨rfl, rfl⟩
  go_wp2_with fail
  go_ret
  exact ⟨rfl, rfl⟩
end Go.Proofs.YtnhkabohccbglaaDoor
