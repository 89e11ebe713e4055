/- Contracts: tags. It proves no statement. -/
import Derived.Test.YtomhpnomcciniaaDoorBase
namespace Go.Proofs.YtomhpnomcciniaaDoor
open Go.RowKit
set_option linter.unusedVariables false
set_option linter.unusedSimpArgs false

/-- How many bytes stand behind a tag. -/
def bh (t : Nat) : Nat :=
  if t = 196 ∨ t = 217 ∨ t = 204 ∨ t = 208 then 1
  else if t = 197 ∨ t = 218 ∨ t = 220 ∨ t = 222 ∨ t = 205 ∨ t = 209 then 2
  else if t = 206 ∨ t = 210 then 4
  else if t = 207 ∨ t = 211 then 8
  else 0
theorem ret_i64 {a b : Int} (h : a = b) : Ending.returned (.int .i64 a) = .returned (.int .i64 b) := by rw [h]
theorem ret_u8 {a b : Int} (h : a = b) : Ending.returned (.int .u8 a) = .returned (.int .u8 b) := by rw [h]

set_option maxHeartbeats 800000 in
theorem behind_any (t : Nat) (w : World) : Calls Tryd.prog 64 #[.int .u8 (t : Int)] w fun e w' => e = .returned (.int .i64 (bh t : Nat)) ∧ w = w' := by
  obtain ⟨b, hb⟩ : ∃ b, b = bh t := ⟨_, rfl⟩
  rw [← hb]
  have HB := Lib.hid hb
  clear hb
  go_enter Tryd.func64, Tryd.ntmps64
  go_wp2_with fail
  all_goals
    (try simp only [beq_iff_eq, beq_eq_false_iff_ne, ne_eq, decide_eq_true_eq, decide_eq_false_iff_not] at *)
    go_ret
    refine ⟨ret_i64 ?_, rfl⟩
    rw [HB.out]
    unfold bh
    first
      | (rw [if_pos (by omega)]; rfl)
      | (rw [if_neg (by omega), if_pos (by omega)]; rfl)
      | (rw [if_neg (by omega), if_neg (by omega), if_pos (by omega)]; rfl)
      | (rw [if_neg (by omega), if_neg (by omega), if_neg (by omega), if_pos (by omega)]; rfl)
      | (rw [if_neg (by omega), if_neg (by omega), if_neg (by omega), if_neg (by omega)]; rfl)

/-- The kind that a tag begins. -/
def kd (t : Nat) : Int :=
  if t < 128 ∨ 224 ≤ t ∨ (204 ≤ t ∧ t ≤ 211) then 3
  else if t < 144 ∨ t = 222 then 7
  else if t < 160 ∨ t = 220 then 6
  else if t < 192 ∨ t = 217 ∨ t = 218 then 5
  else if t = 196 ∨ t = 197 then 4
  else if t = 192 then 0
  else if t = 194 then 1
  else if t = 195 then 2
  else -1
set_option maxRecDepth 100000 in
set_option maxHeartbeats 1600000 in
theorem kindOf_any (t : Nat) (w : World) : Calls Tryd.prog 51 #[.int .u8 (t : Int)] w fun e w' => e = .returned (.int .i64 (kd t)) ∧ w = w' := by
  obtain ⟨b, hb⟩ : ∃ b, b = kd t := ⟨_, rfl⟩
  rw [← hb]
  have HB := Lib.hid hb
  clear hb
  go_enter Tryd.func51, Tryd.ntmps51
  go_wp2_with fail
  all_goals
    (try simp only [beq_iff_eq, beq_eq_false_iff_ne, ne_eq, decide_eq_true_eq, decide_eq_false_iff_not] at *)
    go_ret
    refine ⟨ret_i64 ?_, rfl⟩
    rw [HB.out]
    unfold kd
    first
      | (rw [if_pos (by omega)]; done)
      | (rw [if_neg (by omega), if_pos (by omega)]; done)
      | (rw [if_neg (by omega), if_neg (by omega), if_pos (by omega)]; done)
      | (rw [if_neg (by omega), if_neg (by omega), if_neg (by omega), if_pos (by omega)]; done)
      | (rw [if_neg (by omega), if_neg (by omega), if_neg (by omega), if_neg (by omega), if_pos (by omega)]; done)
      | (rw [if_neg (by omega), if_neg (by omega), if_neg (by omega), if_neg (by omega), if_neg (by omega), if_pos (by omega)]; done)
      | (rw [if_neg (by omega), if_neg (by omega), if_neg (by omega), if_neg (by omega), if_neg (by omega), if_neg (by omega), if_pos (by omega)]; done)
      | (rw [if_neg (by omega), if_neg (by omega), if_neg (by omega), if_neg (by omega), if_neg (by omega), if_neg (by omega), if_neg (by omega), if_pos (by omega)]; done)
      | (rw [if_neg (by omega), if_neg (by omega), if_neg (by omega), if_neg (by omega), if_neg (by omega), if_neg (by omega), if_neg (by omega), if_neg (by omega)]; done)

/-- The tag of a number that has one, two, four, eight bytes; a: the first tag of its kind. -/
def pk (x a : Nat) : Nat := if x < 256 then a else if x < 65536 then a + 1 else if x < 4294967296 then a + 2 else a + 3
set_option maxRecDepth 100000 in
set_option maxHeartbeats 800000 in
theorem pick_any (x a : Nat) (w : World) (hx : x < 18446744073709551616) :
    Calls Tryd.prog 65 #[.int .u64 (x : Int), .agg #[.int .u8 (a : Int), .int .u8 ((a + 1 : Nat) : Int), .int .u8 ((a + 2 : Nat) : Int), .int .u8 ((a + 3 : Nat) : Int)]] w fun e w' => e = .returned (.int .u8 (pk x a : Nat)) ∧ Still w w' := by
  obtain ⟨b, hb⟩ : ∃ b, b = pk x a := ⟨_, rfl⟩
  rw [← hb]
  have HB := Lib.hid hb
  clear hb hx
  generalize hb1 : a + 1 = a1
  generalize hb2 : a + 2 = a2
  generalize hb3 : a + 3 = a3
  have HA := Lib.hid (⟨hb1, hb2, hb3⟩ : a + 1 = a1 ∧ a + 2 = a2 ∧ a + 3 = a3)
  clear hb1 hb2 hb3
  have key : (((x : Int) < 256 ∧ b = a) ∨ (¬ (x : Int) < 256 ∧ (x : Int) < 65536 ∧ b = a1) ∨ (¬ (x : Int) < 256 ∧ ¬ (x : Int) < 65536 ∧ (x : Int) < 4294967296 ∧ b = a2) ∨ (¬ (x : Int) < 256 ∧ ¬ (x : Int) < 65536 ∧ ¬ (x : Int) < 4294967296 ∧ b = a3)) := by
    have h := HA.out
    rw [HB.out]
    unfold pk
    by_cases h1 : x < 256
    · rw [if_pos h1]; exact .inl ⟨by omega, rfl⟩
    · by_cases h2 : x < 65536
      · rw [if_neg h1, if_pos h2]; exact .inr (.inl ⟨by omega, by omega, by omega⟩)
      · by_cases h3 : x < 4294967296
        · rw [if_neg h1, if_neg h2, if_pos h3]; exact .inr (.inr (.inl ⟨by omega, by omega, by omega, by omega⟩))
        · rw [if_neg h1, if_neg h2, if_neg h3]; exact .inr (.inr (.inr ⟨by omega, by omega, by omega, by omega⟩))
  have st := (Still.refl w).alloc (Nat.le_refl _) (.cells #[.int .u8 (a : Int), .int .u8 (a1 : Int), .int .u8 (a2 : Int), .int .u8 (a3 : Int)] 102)
  rcases key with ⟨h1, rfl⟩ | ⟨h1, h2, rfl⟩ | ⟨h1, h2, h3, rfl⟩ | ⟨h1, h2, h3, rfl⟩
  all_goals
    go_enter Tryd.func65, Tryd.ntmps65
    go_wp2_with fail
    go_ret
    exact ⟨rfl, st⟩
end Go.Proofs.YtomhpnomcciniaaDoor
