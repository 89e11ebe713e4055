/- Plain facts on XXH64: the document's own answer as a function of bytes. It names no program and proves no statement. -/
import Derived.Test.YtbnbpfbgoicogaaLe
import Derived.Test.YtbnbpfbgoicogaaNums
namespace Go.Proofs.Ytbnbpfbgoicogaa
open Go.RowKit
set_option linter.unusedVariables false
set_option linter.unusedSimpArgs false

/-- 2^64. -/
def m64 : Nat := 18446744073709551616
/-- The five primes. -/
def xP1 : Nat := 11400714785074694791
def xP2 : Nat := 14029467366897019727
def xP3 : Nat := 1609587929392839161
def xP4 : Nat := 9650029242287828579
def xP5 : Nat := 2870177450012600261
/-- A lane takes a word. -/
def xLane (a x : Nat) : Nat := rotl 64 ((a + x * xP2) % m64) 31 * xP1 % m64
/-- The word of eight bytes at a place. -/
def xWord (l : List UInt8) (i : Nat) : Nat := leNum ((l.drop i).take 8)
/-- How the four lanes begin. -/
def xLane0 (seed k : Nat) : Nat :=
  if k = 0 then (seed + xP1 + xP2) % m64 else if k = 1 then (seed + xP2) % m64 else if k = 2 then seed else (seed + (m64 - xP1)) % m64
theorem xLane0_0 (seed : Nat) : xLane0 seed 0 = (seed + xP1 + xP2) % m64 := if_pos rfl
theorem xLane0_1 (seed : Nat) : xLane0 seed 1 = (seed + xP2) % m64 := (if_neg (by omega)).trans (if_pos rfl)
theorem xLane0_2 (seed : Nat) : xLane0 seed 2 = seed := (if_neg (by omega)).trans ((if_neg (by omega)).trans (if_pos rfl))
theorem xLane0_3 (seed : Nat) : xLane0 seed 3 = (seed + (m64 - xP1)) % m64 := (if_neg (by omega)).trans ((if_neg (by omega)).trans (if_neg (by omega)))
/-- The k-th lane behind m times 32 bytes. -/
def xRun (a k : Nat) (l : List UInt8) : Nat → Nat
  | 0 => a
  | m + 1 => xLane (xRun a k l m) (xWord l (32 * m + 8 * k))
def xMix (h a : Nat) : Nat := ((h ^^^ xLane 0 a) * xP1 + xP4) % m64
/-- The first j lanes mixed in. -/
def xMixes (h : Nat) (v : Nat → Nat) : Nat → Nat
  | 0 => h
  | j + 1 => xMix (xMixes h v j) (v j)
/-- The four lanes come together. -/
def xHead (v : Nat → Nat) : Nat :=
  xMix (xMix (xMix (xMix ((rotl 64 (v 0) 1 + rotl 64 (v 1) 7 + rotl 64 (v 2) 12 + rotl 64 (v 3) 18) % m64) (v 0)) (v 1)) (v 2)) (v 3)
def x8 (h x : Nat) : Nat := (rotl 64 (h ^^^ xLane 0 x) 27 * xP1 + xP4) % m64
def x4 (h x : Nat) : Nat := (rotl 64 (h ^^^ (x * xP1 % m64)) 23 * xP2 + xP3) % m64
def x1 (h : Nat) (b : UInt8) : Nat := rotl 64 (h ^^^ (b.toNat * xP5 % m64)) 11 * xP1 % m64
/-- The words of eight of what is left. -/
def xEights (h : Nat) (l : List UInt8) : Nat → Nat
  | 0 => h
  | j + 1 => x8 (xEights h l j) (xWord l (8 * j))
/-- What is left behind the words of eight. -/
def xEnd (h : Nat) (l : List UInt8) : Nat := if 4 ≤ l.length then (l.drop 4).foldl x1 (x4 h (leNum (l.take 4))) else l.foldl x1 h
def xTail (h : Nat) (l : List UInt8) : Nat := xEnd (xEights h l (l.length / 8)) (l.drop (8 * (l.length / 8)))
def xFin (h : Nat) : Nat :=
  let h1 := (h ^^^ h / 2 ^ 33) * xP2 % m64
  let h2 := (h1 ^^^ h1 / 2 ^ 29) * xP3 % m64
  h2 ^^^ h2 / 2 ^ 32
/-- The sum, from what the lanes are behind all whole thirty-twos. -/
def xClose (seed : Nat) (v : Nat → Nat) (n : Nat) (rest : List UInt8) : Nat :=
  xFin (xTail (((if 32 ≤ n then xHead v else (seed + xP5) % m64) + n) % m64) rest)
def xxSum (l : List UInt8) (seed : Nat) : Nat :=
  xClose seed (fun k => xRun (xLane0 seed k) k l (l.length / 32)) l.length (l.drop (32 * (l.length / 32)))

theorem xRun_zero (a k : Nat) (l : List UInt8) : xRun a k l 0 = a := rfl
theorem xRun_succ (a k : Nat) (l : List UInt8) (m : Nat) : xRun a k l (m + 1) = xLane (xRun a k l m) (xWord l (32 * m + 8 * k)) := rfl
theorem xWord_lt (l : List UInt8) (i : Nat) : xWord l i < m64 := by
  have h := leNum_lt ((l.drop i).take 8)
  refine Nat.lt_of_lt_of_le h ?_
  have : 8 * ((l.drop i).take 8).length ≤ 64 := by simp [List.length_take]; omega
  exact Nat.pow_le_pow_right (by omega) this
theorem xLane_lt (a x : Nat) : xLane a x < m64 := Nat.mod_lt _ (by decide)
theorem xMix_lt (h a : Nat) : xMix h a < m64 := Nat.mod_lt _ (by decide)
theorem x8_lt (h x : Nat) : x8 h x < m64 := Nat.mod_lt _ (by decide)
theorem x4_lt (h x : Nat) : x4 h x < m64 := Nat.mod_lt _ (by decide)
theorem x1_lt (h : Nat) (b : UInt8) : x1 h b < m64 := Nat.mod_lt _ (by decide)
theorem xLane0_lt (seed k : Nat) (h : seed < m64) : xLane0 seed k < m64 := by
  unfold xLane0
  split
  · exact Nat.mod_lt _ (by decide)
  · split
    · exact Nat.mod_lt _ (by decide)
    · split
      · exact h
      · exact Nat.mod_lt _ (by decide)
theorem xRun_lt (a k : Nat) (l : List UInt8) (m : Nat) (h : a < m64) : xRun a k l m < m64 := by
  cases m with
  | zero => exact h
  | succ m => exact xLane_lt _ _
theorem xMixes_lt (h : Nat) (v : Nat → Nat) (j : Nat) (hh : h < m64) : xMixes h v j < m64 := by
  cases j with
  | zero => exact hh
  | succ j => exact xMix_lt _ _
theorem xHead_mixes (v : Nat → Nat) : xHead v = xMixes ((rotl 64 (v 0) 1 + rotl 64 (v 1) 7 + rotl 64 (v 2) 12 + rotl 64 (v 3) 18) % m64) v 4 := rfl
theorem xHead_lt (v : Nat → Nat) : xHead v < m64 := xMix_lt _ _
theorem xEights_lt (h : Nat) (l : List UInt8) (j : Nat) (hh : h < m64) : xEights h l j < m64 := by
  cases j with
  | zero => exact hh
  | succ j => exact x8_lt _ _
theorem x1s_lt (h : Nat) (l : List UInt8) (hh : h < m64) : l.foldl x1 h < m64 := by
  induction l generalizing h with
  | nil => exact hh
  | cons b r ih => exact ih _ (x1_lt _ _)
/-- A word of what stands ahead doesn't hang on what follows. -/
theorem xWord_append (a b : List UInt8) (i : Nat) (h : i + 8 ≤ a.length) : xWord (a ++ b) i = xWord a i := by
  unfold xWord
  rw [List.drop_append_of_le_length (by omega), List.take_append_of_le_length (by simp; omega)]
theorem xRun_append (s k : Nat) (a b : List UInt8) (m : Nat) (hk : k < 4) (h : 32 * m ≤ a.length) : xRun s k (a ++ b) m = xRun s k a m := by
  induction m with
  | zero => rfl
  | succ m ih =>
    unfold xRun
    rw [ih (by omega), xWord_append _ _ _ (by omega)]
theorem xWord_drop (l : List UInt8) (i j : Nat) : xWord (l.drop i) j = xWord l (i + j) := by
  unfold xWord
  rw [List.drop_drop]
/-- The lanes go on: behind m times 32 bytes of a, j times 32 of b. -/
theorem xRun_more (s k : Nat) (a b : List UInt8) (m j : Nat) (hk : k < 4) (h : a.length = 32 * m) : xRun s k (a ++ b) (m + j) = xRun (xRun s k a m) k b j := by
  induction j with
  | zero => exact xRun_append s k a b m hk (by omega)
  | succ j ih =>
    rw [← Nat.add_assoc]
    unfold xRun
    rw [ih]
    congr 1
    have e : b = (a ++ b).drop a.length := by simp
    rw [e, xWord_drop, h]
    simp only [List.drop_left' h]
    congr 1
    omega
/-- The four lanes while they are counted one behind the other. -/
def laneVals (F : Nat → Nat → Nat) (q k m : Nat) : List Nat := [0, 1, 2, 3].map fun j => if j < k then F j q else if j = k then F j m else F j 0
theorem laneVals_next (F : Nat → Nat → Nat) (q k : Nat) (hk : k < 4) : laneVals F q k q = laneVals F q (k + 1) 0 := by
  obtain rfl | rfl | rfl | rfl : k = 0 ∨ k = 1 ∨ k = 2 ∨ k = 3 := by omega
  all_goals simp [laneVals]
theorem laneVals_set (F : Nat → Nat → Nat) (q k m : Nat) (hk : k < 4) : (laneVals F q k m).set k (F k (m + 1)) = laneVals F q k (m + 1) := by
  obtain rfl | rfl | rfl | rfl : k = 0 ∨ k = 1 ∨ k = 2 ∨ k = 3 := by omega
  all_goals simp [laneVals]
theorem laneVals_get (F : Nat → Nat → Nat) (q k m : Nat) (hk : k < 4) : (laneVals F q k m)[k]? = some (F k m) := by
  obtain rfl | rfl | rfl | rfl : k = 0 ∨ k = 1 ∨ k = 2 ∨ k = 3 := by omega
  all_goals simp [laneVals]
theorem laneVals_end (F : Nat → Nat → Nat) (q : Nat) : laneVals F q 4 0 = [F 0 q, F 1 q, F 2 q, F 3 q] := by simp [laneVals]
theorem laneVals_start (F : Nat → Nat → Nat) (q : Nat) : laneVals F q 0 0 = [F 0 0, F 1 0, F 2 0, F 3 0] := by simp [laneVals]
/-- Words as the model's values. -/
def wordsV (l : List Nat) : List Value := l.map fun (x : Nat) => Value.int .u64 (x : Int)
theorem wordsV_set (l : List Nat) (i x : Nat) : (wordsV l).set i (Value.int .u64 (x : Int)) = wordsV (l.set i x) := by simp [wordsV, List.map_set]
theorem wordsV_get (l : List Nat) (i x : Nat) (h : l[i]? = some x) : (wordsV l)[i]? = some (Value.int .u64 (x : Int)) := by simp [wordsV, h]
end Go.Proofs.Ytbnbpfbgoicogaa
