/- Plain facts on SHA-256: casts, bounds. It names no program and proves no statement. -/
import Derived.Test.YtambpgfmnbkhdaaDoorShaMath
namespace Go.Proofs.YtambpgfmnbkhdaaDoor
open Go.RowKit
set_option linter.unusedVariables false
set_option linter.unusedSimpArgs false

theorem m32_val : m32 = 4294967296 := rfl
theorem xor_lt32 {x y : Nat} (hx : x < m32) (hy : y < m32) : x ^^^ y < m32 := Nat.xor_lt_two_pow (n := 32) hx hy
theorem and_lt32 {x y : Nat} (hx : x < m32) : x &&& y < m32 := Nat.lt_of_le_of_lt Nat.and_le_left hx
theorem rr_lt (x n : Nat) (hx : x < m32) : rr x n < m32 := rotl_lt 32 x _ hx
theorem div_lt32 (x n : Nat) (hx : x < m32) : x / n < m32 := Nat.lt_of_le_of_lt (Nat.div_le_self _ _) hx
theorem sgA_lt (x : Nat) (hx : x < m32) : sgA x < m32 := xor_lt32 (xor_lt32 (rr_lt _ _ hx) (rr_lt _ _ hx)) (div_lt32 _ _ hx)
theorem sgB_lt (x : Nat) (hx : x < m32) : sgB x < m32 := xor_lt32 (xor_lt32 (rr_lt _ _ hx) (rr_lt _ _ hx)) (div_lt32 _ _ hx)
theorem bgA_lt (x : Nat) (hx : x < m32) : bgA x < m32 := xor_lt32 (xor_lt32 (rr_lt _ _ hx) (rr_lt _ _ hx)) (rr_lt _ _ hx)
theorem bgE_lt (x : Nat) (hx : x < m32) : bgE x < m32 := xor_lt32 (xor_lt32 (rr_lt _ _ hx) (rr_lt _ _ hx)) (rr_lt _ _ hx)
theorem mod_lt32 (x : Nat) : x % m32 < m32 := Nat.mod_lt _ (by decide)

theorem wrap_add32 (x y : Nat) : IntKind.u32.wrap ((x : Int) + (y : Int)) = (((x + y) % m32 : Nat) : Int) := by
  rw [IntKind.wrap_u32]; simp [m32]
theorem wrap_add5 (a b c d e : Nat) : IntKind.u32.wrap (IntKind.u32.wrap (IntKind.u32.wrap (IntKind.u32.wrap ((a : Int) + (b : Int)) + (c : Int)) + (d : Int)) + (e : Int)) = (((a + b + c + d + e) % m32 : Nat) : Int) := by
  rw [wrap_add32, wrap_add32, wrap_add32, wrap_add32]
  congr 1
  simp only [m32]
  omega
theorem wrap_add4 (a b c d : Nat) : IntKind.u32.wrap (IntKind.u32.wrap (IntKind.u32.wrap ((a : Int) + (b : Int)) + (c : Int)) + (d : Int)) = (((a + b + c + d) % m32 : Nat) : Int) := by
  rw [wrap_add32, wrap_add32, wrap_add32]
  congr 1
  simp only [m32]
  omega
theorem u32x (x y : Nat) (hx : x < m32) (hy : y < m32) : bits .xor .u32 (x : Int) (y : Int) = ((x ^^^ y : Nat) : Int) := u32_xor_nat x y hx hy
theorem u32a (x y : Nat) (hx : x < m32) (hy : y < m32) : bits .and .u32 (x : Int) (y : Int) = ((x &&& y : Nat) : Int) := u32_and_nat x y hx hy
theorem u32o (x y : Nat) (hx : x < m32) (hy : y < m32) : bits .or .u32 (x : Int) (y : Int) = ((x ||| y : Nat) : Int) := u32_or_nat x y hx hy
theorem u32n (x : Nat) (hx : x < m32) : bits .xor .u32 IntKind.u32.max (x : Int) = ((4294967295 ^^^ x : Nat) : Int) := u32_xor_nat 4294967295 x (by decide) hx
theorem not_lt32 (x : Nat) (hx : x < m32) : 4294967295 ^^^ x < m32 := xor_lt32 (by decide) hx
theorem chN_or (e f g : Nat) (he : e < m32) (hf : f < m32) (hg : g < m32) : (e &&& f) ||| ((e ^^^ 4294967295) &&& g) = chN e f g := by
  unfold chN
  refine eq_of_bits 32 _ _ (Nat.or_lt_two_pow (and_lt32 he) (and_lt32 (xor_lt32 he (by decide)))) (xor_lt32 (and_lt32 he) (and_lt32 (not_lt32 _ he))) fun j hj => ?_
  have h1 : (4294967295 : Nat).testBit j = true := by
    have : (4294967295 : Nat) = 2 ^ 32 - 1 := rfl
    rw [this, Nat.testBit_two_pow_sub_one]; simp [hj]
  simp only [Nat.testBit_or, Nat.testBit_and, Nat.testBit_xor, h1]
  cases e.testBit j <;> cases f.testBit j <;> cases g.testBit j <;> rfl
theorem mjN_or (a b c : Nat) : (a &&& b) ||| (a &&& c) ||| (b &&& c) = mjN a b c := by
  unfold mjN
  apply Nat.eq_of_testBit_eq
  intro j
  simp only [Nat.testBit_or, Nat.testBit_and, Nat.testBit_xor]
  cases a.testBit j <;> cases b.testBit j <;> cases c.testBit j <;> rfl
theorem chN_lt (e f g : Nat) (he : e < m32) : chN e f g < m32 := xor_lt32 (and_lt32 he) (and_lt32 (not_lt32 _ he))
theorem mjN_lt (a b c : Nat) (ha : a < m32) (hb : b < m32) : mjN a b c < m32 := xor_lt32 (xor_lt32 (and_lt32 ha) (and_lt32 ha)) (and_lt32 hb)
/-- Turned by hand. -/
theorem rr_cast (x n : Nat) (hx : x < m32) (h1 : 1 ≤ n) (hn : n < 32) :
    bits BinOp.or IntKind.u32 (↑x / 2 ^ n) ((↑x * 2 ^ (32 - n)) % 4294967296) = ((rr x n : Nat) : Int) := by
  have e1 : ((x : Int) * 2 ^ (32 - n)) % 4294967296 = ((x * 2 ^ (32 - n) % 2 ^ 32 : Nat) : Int) := by simp
  have e2 : ((x : Int) / 2 ^ n) = ((x / 2 ^ n : Nat) : Int) := by simp
  rw [e1, e2, u32_or_nat _ _ (Nat.lt_of_le_of_lt (Nat.div_le_self _ _) hx) (Nat.mod_lt _ (by omega)), Nat.or_comm]
  unfold rr rotl
  rw [show 32 - (32 - n) = n by omega]

theorem wd_lt (b : List UInt8) (i : Nat) : wd b i < m32 := by
  have h := leNum_lt ((b.drop (4 * i)).take 4).reverse
  refine Nat.lt_of_lt_of_le h ?_
  have : 8 * ((b.drop (4 * i)).take 4).reverse.length ≤ 32 := by simp [List.length_take]; omega
  exact Nat.pow_le_pow_right (by omega) this
theorem wAt_lt (b : List UInt8) (l : List Nat) (i : Nat) : wAt b l i < m32 := by
  unfold wAt
  split
  · exact wd_lt _ _
  · exact mod_lt32 _
theorem wTo_length (b : List UInt8) (n : Nat) : (wTo b n).length = n := by
  induction n with
  | zero => rfl
  | succ n ih => simp [wTo, ih]
theorem wTo_lt (b : List UInt8) (n : Nat) : ∀ x ∈ wTo b n, x < m32 := by
  induction n with
  | zero => intro x hx; cases hx
  | succ n ih =>
    intro x hx
    rcases List.mem_append.1 hx with h | h
    · exact ih x h
    · obtain rfl := List.mem_singleton.1 h
      exact wAt_lt _ _ _
theorem getD_lt32 {l : List Nat} (h : ∀ x ∈ l, x < m32) (i : Nat) : l.getD i 0 < m32 := by
  by_cases hi : i < l.length
  · simp only [List.getD, List.getElem?_eq_getElem hi, Option.getD_some]
    exact h _ (List.getElem_mem _)
  · simp only [List.getD, List.getElem?_eq_none (show l.length ≤ i by omega), Option.getD_none]
    decide
theorem kT_lt (i : Nat) : kT.getD i 0 < m32 := getD_lt32 (by decide) i
/-- All words of a state have 32 bits. -/
structure S8.Fit (s : S8) : Prop where
  a : s.a < m32
  b : s.b < m32
  c : s.c < m32
  d : s.d < m32
  e : s.e < m32
  f : s.f < m32
  g : s.g < m32
  h : s.h < m32
theorem S8.Fit.step {s : S8} (h : s.Fit) (k w : Nat) : (s.step k w).Fit := ⟨mod_lt32 _, h.a, h.b, h.c, mod_lt32 _, h.e, h.f, h.g⟩
theorem rnds_fit {s : S8} (h : s.Fit) (w : List Nat) (n : Nat) : (rnds s w n).Fit := by
  induction n with
  | zero => exact h
  | succ n ih => exact ih.step _ _
theorem S8.Fit.add (s t : S8) : (s.add t).Fit := ⟨mod_lt32 _, mod_lt32 _, mod_lt32 _, mod_lt32 _, mod_lt32 _, mod_lt32 _, mod_lt32 _, mod_lt32 _⟩
theorem sh0_fit : sh0.Fit := ⟨by decide, by decide, by decide, by decide, by decide, by decide, by decide, by decide⟩
theorem shRun_fit {s : S8} (h : s.Fit) (l : List UInt8) (n : Nat) : (shRun s l n).Fit := by
  cases n with
  | zero => exact h
  | succ n => exact S8.Fit.add _ _
theorem S8.list_lt {s : S8} (h : s.Fit) : ∀ x ∈ s.list, x < m32 := by
  intro x hx
  simp only [S8.list, List.mem_cons, List.not_mem_nil, or_false] at hx
  rcases hx with rfl | rfl | rfl | rfl | rfl | rfl | rfl | rfl
  all_goals first | exact h.a | exact h.b | exact h.c | exact h.d | exact h.e | exact h.f | exact h.g | exact h.h
theorem S8.list_length (s : S8) : s.list.length = 8 := rfl
/-- Words as the model's values. -/
def w32 (l : List Nat) : List Value := l.map fun (x : Nat) => Value.int .u32 (x : Int)
theorem w32_length (l : List Nat) : (w32 l).length = l.length := by simp [w32]
theorem w32_append (a b : List Nat) : w32 (a ++ b) = w32 a ++ w32 b := by simp [w32]
theorem w32_set (l : List Nat) (i x : Nat) : (w32 l).set i (Value.int .u32 (x : Int)) = w32 (l.set i x) := by simp [w32, List.map_set]
theorem w32_get (l : List Nat) (i : Nat) (h : i < l.length) : (w32 l)[i]? = some (Value.int .u32 (l.getD i 0 : Nat)) := by simp [w32, h]
theorem w32_one (l : List Nat) : ∀ u ∈ w32 l, u.oneCell' = true := by
  intro u hu
  obtain ⟨_, _, rfl⟩ := List.mem_map.1 hu
  rfl
theorem w32_rep (n : Nat) : List.replicate n (Value.int .u32 0) = w32 (List.replicate n 0) := by simp [w32]

theorem wB_length (x : Nat) : (wB x).length = 4 := by simp [wB, leBytes_length]
theorem idB_length (l : List Nat) : (idB l).length = 4 * l.length := by
  induction l with
  | nil => rfl
  | cons x r ih =>
    have e : idB (x :: r) = wB x ++ idB r := rfl
    rw [e, List.length_append, ih, wB_length, List.length_cons]
    omega
theorem shEnd_length (n : Nat) : (shEnd n).length = 1 + (119 - n % 64) % 64 + 8 := by simp [shEnd, leBytes_length]; omega
theorem pad_mod (l : List UInt8) : (l ++ shEnd l.length).length % 64 = 0 := by rw [List.length_append, shEnd_length]; omega
theorem shRun_append (s : S8) (a b : List UInt8) (m : Nat) (h : 64 * m ≤ a.length) : shRun s (a ++ b) m = shRun s a m := by
  induction m with
  | zero => rfl
  | succ m ih =>
    unfold shRun
    rw [ih (by omega), List.drop_append_of_le_length (by omega), List.take_append_of_le_length (by simp; omega)]
end Go.Proofs.YtambpgfmnbkhdaaDoor
