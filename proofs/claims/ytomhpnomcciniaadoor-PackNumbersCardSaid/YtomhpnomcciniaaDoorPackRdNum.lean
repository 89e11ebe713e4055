/- Contracts: a number read behind its tag. It proves no statement. -/
import Derived.Test.YtomhpnomcciniaaDoorPackRd
namespace Go.Proofs.YtomhpnomcciniaaDoor
open Go.RowKit
set_option linter.unusedVariables false
set_option linter.unusedSimpArgs false

theorem bh_cases (t : Nat) : bh t = 0 ∨ bh t = 1 ∨ bh t = 2 ∨ bh t = 4 ∨ bh t = 8 := by
  unfold bh; split <;> (try split) <;> (try split) <;> (try split) <;> simp

/-- The number that k bytes tell; below 0 its sign comes down. -/
def decK (neg : Bool) (k u : Nat) : Int := if neg = true then wrap64 (wrap64 (u : Int) * 2 ^ (64 - 8 * k)) / 2 ^ (64 - 8 * k) else wrap64 (u : Int)
theorem wrap64_bd (x : Int) : -9223372036854775808 ≤ wrap64 x ∧ wrap64 x ≤ 9223372036854775807 := by unfold wrap64; omega
theorem decK_bd (neg : Bool) (k u : Nat) (h : k = 1 ∨ k = 2 ∨ k = 4 ∨ k = 8) : -9223372036854775808 ≤ decK neg k u ∧ decK neg k u ≤ 9223372036854775807 := by
  unfold decK
  split
  · rcases h with rfl | rfl | rfl | rfl
    · have := wrap64_bd (wrap64 (u : Int) * 2 ^ (64 - 8 * 1))
      simp only [show (2 : Int) ^ (64 - 8 * 1) = 72057594037927936 from rfl] at *
      omega
    · have := wrap64_bd (wrap64 (u : Int) * 2 ^ (64 - 8 * 2))
      simp only [show (2 : Int) ^ (64 - 8 * 2) = 281474976710656 from rfl] at *
      omega
    · have := wrap64_bd (wrap64 (u : Int) * 2 ^ (64 - 8 * 4))
      simp only [show (2 : Int) ^ (64 - 8 * 4) = 4294967296 from rfl] at *
      omega
    · have := wrap64_bd (wrap64 (u : Int) * 2 ^ (64 - 8 * 8))
      simp only [show (2 : Int) ^ (64 - 8 * 8) = 1 from rfl] at *
      omega
  · exact wrap64_bd _

/-- The bytes of a number tell it. -/
theorem numB_num (t x : Nat) : leNum ((numB t x).reverse) = x % 2 ^ (8 * bh t) := by
  unfold numB
  rw [List.reverse_reverse, leNum_le]
theorem pk_bh (x a : Nat) (ha : a = 204 ∨ a = 208) : bh (pk x a) = (if x < 256 then 1 else if x < 65536 then 2 else if x < 4294967296 then 4 else 8) := by
  unfold pk
  rcases ha with rfl | rfl
  all_goals
    split
    · decide
    · split
      · decide
      · split <;> decide
theorem small_bh (t : Nat) (h : t < 128 ∨ 224 ≤ t) : bh t = 0 := by unfold bh; rw [if_neg (by omega), if_neg (by omega), if_neg (by omega), if_neg (by omega)]
theorem nt_small (x : Int) (h : -32 ≤ x ∧ x ≤ 127) : bh (nt x) = 0 ∧ (nt x : Int) = x % 256 := by
  have e : nt x = (x % 256).toNat := by unfold nt; rw [if_pos h]
  refine ⟨?_, by rw [e]; omega⟩
  rw [e]
  exact small_bh _ (by omega)
theorem pk_lo (x a : Nat) : a ≤ pk x a ∧ pk x a ≤ a + 3 := by unfold pk; split <;> (try split) <;> (try split) <;> omega
theorem sext1 (x u : Int) (hu : u = x + 256) (h1 : -128 ≤ x) (h2 : x < 0) : wrap64 (wrap64 u * 72057594037927936) / 72057594037927936 = x := by
  have e1 : wrap64 u = u := by unfold wrap64; omega
  have e2 : wrap64 (u * 72057594037927936) = x * 72057594037927936 := by unfold wrap64; omega
  rw [e1, e2, Int.mul_ediv_cancel _ (by decide)]
theorem sext2 (x u : Int) (hu : u = x + 65536) (h1 : -32768 ≤ x) (h2 : x < 0) : wrap64 (wrap64 u * 281474976710656) / 281474976710656 = x := by
  have e1 : wrap64 u = u := by unfold wrap64; omega
  have e2 : wrap64 (u * 281474976710656) = x * 281474976710656 := by unfold wrap64; omega
  rw [e1, e2, Int.mul_ediv_cancel _ (by decide)]
theorem sext4 (x u : Int) (hu : u = x + 4294967296) (h1 : -2147483648 ≤ x) (h2 : x < 0) : wrap64 (wrap64 u * 4294967296) / 4294967296 = x := by
  have e1 : wrap64 u = u := by unfold wrap64; omega
  have e2 : wrap64 (u * 4294967296) = x * 4294967296 := by unfold wrap64; omega
  rw [e1, e2, Int.mul_ediv_cancel _ (by decide)]
theorem sext8 (x u : Int) (hu : u = x + 18446744073709551616) (h1 : -9223372036854775808 ≤ x) (h2 : x < 0) : wrap64 (wrap64 u * 1) / 1 = x := by
  have e1 : wrap64 u = x := by unfold wrap64; omega
  have e2 : wrap64 (x * 1) = x := by unfold wrap64; omega
  rw [e1, e2, Int.ediv_one]
theorem dec_pos (x : Int) (h0 : 128 ≤ x) (h2 : x ≤ 9223372036854775807) : decK (decide (208 ≤ nt x)) (bh (nt x)) (ux x % 2 ^ (8 * bh (nt x))) = x := by
  obtain ⟨y, rfl⟩ := Int.eq_ofNat_of_zero_le (show 0 ≤ x by omega)
  have e : nt (y : Int) = pk y 204 := by unfold nt; rw [if_neg (by omega), if_pos (by omega)]; rfl
  have p := pk_lo y 204
  have eb := pk_bh y 204 (.inl rfl)
  have eu : ux (y : Int) = y := by unfold ux; omega
  rw [e, eb, eu, show decide (208 ≤ pk y 204) = false by simp; omega]
  have hm : y % 2 ^ (8 * (if y < 256 then 1 else if y < 65536 then 2 else if y < 4294967296 then 4 else 8)) = y := by
    apply Nat.mod_eq_of_lt
    by_cases a1 : y < 256
    · rw [if_pos a1]; exact a1
    · by_cases a2 : y < 65536
      · rw [if_neg a1, if_pos a2]; exact a2
      · by_cases a3 : y < 4294967296
        · rw [if_neg a1, if_neg a2, if_pos a3]; exact a3
        · rw [if_neg a1, if_neg a2, if_neg a3]; show y < 18446744073709551616; omega
  rw [hm]
  unfold decK
  rw [if_neg (by decide)]
  unfold wrap64
  omega
theorem dec_neg (x : Int) (h1 : -9223372036854775808 ≤ x) (h0 : x < -32) : decK (decide (208 ≤ nt x)) (bh (nt x)) (ux x % 2 ^ (8 * bh (nt x))) = x := by
  have e : nt x = pk (2 * (-x - 1)).toNat 208 := by unfold nt; rw [if_neg (by omega), if_neg (by omega)]
  obtain ⟨y, hy⟩ : ∃ y, y = (2 * (-x - 1)).toNat := ⟨_, rfl⟩
  rw [← hy] at e
  have p := pk_lo y 208
  have eb := pk_bh y 208 (.inr rfl)
  have eu : (ux x : Int) = x + 18446744073709551616 := by unfold ux; omega
  rw [e, eb, show decide (208 ≤ pk y 208) = true by simp; omega]
  generalize ux x = u at *
  clear e eb p
  unfold decK
  rw [if_pos rfl]
  by_cases a1 : y < 256
  · rw [if_pos a1]
    exact sext1 x _ (by show ((u % 256 : Nat) : Int) = _; omega) (by omega) (by omega)
  · by_cases a2 : y < 65536
    · rw [if_neg a1, if_pos a2]
      exact sext2 x _ (by show ((u % 65536 : Nat) : Int) = _; omega) (by omega) (by omega)
    · by_cases a3 : y < 4294967296
      · rw [if_neg a1, if_neg a2, if_pos a3]
        exact sext4 x _ (by show ((u % 4294967296 : Nat) : Int) = _; omega) (by omega) (by omega)
      · rw [if_neg a1, if_neg a2, if_neg a3]
        exact sext8 x _ (by show ((u % 18446744073709551616 : Nat) : Int) = _; omega) (by omega) (by omega)
theorem dec_enc (x : Int) (h1 : -9223372036854775808 ≤ x) (h2 : x ≤ 9223372036854775807) (hb : bh (nt x) ≠ 0) :
    decK (decide (208 ≤ nt x)) (bh (nt x)) (ux x % 2 ^ (8 * bh (nt x))) = x := by
  by_cases c1 : -32 ≤ x ∧ x ≤ 127
  · exact absurd (nt_small x c1).1 hb
  · by_cases c2 : 0 ≤ x
    · exact dec_pos x (by omega) h2
    · exact dec_neg x h1 (by omega)

set_option maxRecDepth 100000 in
set_option maxHeartbeats 3200000 in
theorem rnum_yes {w : World} {lo B h g : Nat} {l : List UInt8} (r : Rd w lo B h g l 0) (t : Nat) (ht : t < 256) (h1 : 1 ≤ bh t) (hs : bh t ≤ l.length) (X : Int) (hX : X = decK (decide (208 ≤ t)) (bh t) (leNum (l.take (bh t)).reverse)) :
    Calls Tryd.prog 52 #[.pointer (some ⟨h, 0, none⟩), .int .u8 (t : Int)] w fun e w' => e = .returned (.tuple #[.int .i64 X, .int .i64 (if ((nt X : Int) == (t : Int)) = true then 0 else 4)]) ∧ Rd w' lo B h g (l.drop (bh t)) 0 ∧ w.grownBy w' (some g) := by
  have BG := Lib.hid (rbig_yes r (bh t) h1 (bh_le t) hs)
  have BH := Lib.hid (fun w => behind_any t w)
  obtain ⟨u, hu⟩ : ∃ u, u = leNum (l.take (bh t)).reverse := ⟨_, rfl⟩
  rw [← hu] at BG hX
  obtain ⟨k, hk⟩ : ∃ k, k = bh t := ⟨_, rfl⟩
  have hkc := bh_cases t
  rw [← hk] at BG BH hkc h1 hX ⊢
  have hkc2 : k = 1 ∨ k = 2 ∨ k = 4 ∨ k = 8 := by omega
  have hbd := decK_bd (decide (208 ≤ t)) k u hkc2
  rw [← hX] at hbd
  have NT := Lib.hid (fun w => numTag_any X w hbd.1 hbd.2)
  obtain ⟨y, hy⟩ : ∃ y, y = nt X := ⟨_, rfl⟩
  rw [← hy] at NT ⊢
  obtain ⟨b, hb⟩ : ∃ b, b = ((y : Int) == (t : Int)) := ⟨_, rfl⟩
  rw [← hb]
  have HB := Lib.hid hb
  have FT := Lib.hid (fun (w' : World) (q : Rd w' lo B h g (l.drop k) 0) => fits_is q b)
  obtain ⟨e4, he4⟩ : ∃ e4 : Int, e4 = (if b = true then 0 else 4) := ⟨_, rfl⟩
  rw [← he4] at FT ⊢
  obtain ⟨L, hL⟩ : ∃ L, L = l.drop k := ⟨_, rfl⟩
  rw [← hL] at FT BG ⊢
  have hbd2 : Hid (-9223372036854775808 ≤ X ∧ X ≤ 9223372036854775807) := Lib.hid hbd
  clear hu hk hs hy hb he4 hL hkc h1 hbd r ht
  by_cases hc : 208 ≤ t
  · have d1 : 208 ≤ (t : Int) := by omega
    rw [show decide (208 ≤ t) = true by simpa using hc] at hX
    rcases hkc2 with rfl | rfl | rfl | rfl
    all_goals
      unfold decK at hX
      rw [if_pos rfl] at hX
      simp only [show (2 : Int) ^ (64 - 8 * 1) = 72057594037927936 from rfl, show (2 : Int) ^ (64 - 8 * 2) = 281474976710656 from rfl, show (2 : Int) ^ (64 - 8 * 4) = 4294967296 from rfl, show (2 : Int) ^ (64 - 8 * 8) = 1 from rfl, Int.mul_one, Int.ediv_one] at hX
      have hX' := hX.symm
      clear hX hc
      go_enter Tryd.func52, Tryd.ntmps52
      go_wp2_with fail
      refine (BH.out _).mono ?_
      rintro e w1 ⟨rfl, rfl⟩
      go_wp2_with fail
      refine BG.out.mono ?_
      rintro e w1 ⟨rfl, r1, gr1⟩
      have R1 := Lib.hid r1
      have GR := Lib.hid gr1
      clear r1 gr1
      go_wp2_with fail
      refine (NT.out _).mono ?_
      rintro e w2 ⟨rfl, s2⟩
      have R2 := Lib.hid (R1.out.still s2)
      have S2 := Lib.hid s2
      clear s2
      have hbs : ((y : Int) == (t : Int)) = b := HB.out.symm
      go_wp2_with fail
      refine (FT.out _ R2.out).mono ?_
      rintro e w3 ⟨rfl, rfl⟩
      go_wp2_with fail
      go_ret2
      exact ⟨rfl, R2.out, grown_trans GR.out (grown_of_still S2.out)⟩
  · have d1 : ¬ 208 ≤ (t : Int) := by omega
    rw [show decide (208 ≤ t) = false by simpa using hc] at hX
    unfold decK at hX
    rw [if_neg (by decide)] at hX
    have hX' := hX.symm
    have dk : ¬ ((k : Int) = 0) := by omega
    clear hX hc hkc2
    go_enter Tryd.func52, Tryd.ntmps52
    go_wp2_with fail
    refine (BH.out _).mono ?_
    rintro e w1 ⟨rfl, rfl⟩
    go_wp2_with fail
    refine BG.out.mono ?_
    rintro e w1 ⟨rfl, r1, gr1⟩
    have R1 := Lib.hid r1
    have GR := Lib.hid gr1
    clear r1 gr1
    go_wp2_with fail
    refine (NT.out _).mono ?_
    rintro e w2 ⟨rfl, s2⟩
    have R2 := Lib.hid (R1.out.still s2)
    have S2 := Lib.hid s2
    clear s2
    have hbs : ((y : Int) == (t : Int)) = b := HB.out.symm
    go_wp2_with fail
    refine (FT.out _ R2.out).mono ?_
    rintro e w3 ⟨rfl, rfl⟩
    go_wp2_with fail
    go_ret2
    exact ⟨rfl, R2.out, grown_trans GR.out (grown_of_still S2.out)⟩
end Go.Proofs.YtomhpnomcciniaaDoor
