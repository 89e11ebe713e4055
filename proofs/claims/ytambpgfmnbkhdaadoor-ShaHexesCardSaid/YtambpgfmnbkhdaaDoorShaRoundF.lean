/- One round, number by number, for the program and for the document's own answer. It proves no statement. -/
import Derived.Test.YtambpgfmnbkhdaaDoorShaTurn
namespace Go.Proofs.YtambpgfmnbkhdaaDoor
open Go.RowKit
set_option linter.unusedVariables false
set_option linter.unusedSimpArgs false

/-- Three turns of a word, by both. -/
def Turns (y n r : Nat) : Prop :=
  (∀ w, Calls Tryd.prog 38 #[.int .u32 (y : Int), .int .u64 (n : Int)] w fun e w' => e = .returned (.int .u32 (r : Int)) ∧ w' = w) ∧
  (∀ w, Calls Tryd.prog 44 #[.int .u32 (y : Int), .int .i64 (n : Int)] w fun e w' => e = .returned (.int .u32 (r : Int)) ∧ w' = w)
theorem turns_of (y n : Nat) (hy : y < m32) (h1 : 1 ≤ n) (h2 : n < 32) : Turns y n (rr y n) := ⟨fun w => rturned_any y n w hy h1 h2, fun w => right_any y n w hy h1 h2⟩
theorem bgE_facts (y : Nat) (hy : y < m32) : ∃ r1 r2 r3 x z : Nat, z = bgE y ∧ Turns y 6 r1 ∧ Turns y 11 r2 ∧ Turns y 25 r3 ∧ bits .xor .u32 (r1 : Int) (r2 : Int) = (x : Int) ∧ bits .xor .u32 (x : Int) (r3 : Int) = (z : Int) :=
  ⟨rr y 6, rr y 11, rr y 25, _, _, rfl, turns_of _ _ hy (by omega) (by omega), turns_of _ _ hy (by omega) (by omega), turns_of _ _ hy (by omega) (by omega), u32x _ _ (rr_lt _ _ hy) (rr_lt _ _ hy), u32x _ _ (xor_lt32 (rr_lt _ _ hy) (rr_lt _ _ hy)) (rr_lt _ _ hy)⟩
theorem bgA_facts (y : Nat) (hy : y < m32) : ∃ r1 r2 r3 x z : Nat, z = bgA y ∧ Turns y 2 r1 ∧ Turns y 13 r2 ∧ Turns y 22 r3 ∧ bits .xor .u32 (r1 : Int) (r2 : Int) = (x : Int) ∧ bits .xor .u32 (x : Int) (r3 : Int) = (z : Int) :=
  ⟨rr y 2, rr y 13, rr y 22, _, _, rfl, turns_of _ _ hy (by omega) (by omega), turns_of _ _ hy (by omega) (by omega), turns_of _ _ hy (by omega) (by omega), u32x _ _ (rr_lt _ _ hy) (rr_lt _ _ hy), u32x _ _ (xor_lt32 (rr_lt _ _ hy) (rr_lt _ _ hy)) (rr_lt _ _ hy)⟩
theorem ch_facts (e f g : Nat) (he : e < m32) (hf : f < m32) (hg : g < m32) : ∃ n1 n2 n3 z : Nat, z = chN e f g ∧ bits .and .u32 (e : Int) (f : Int) = (n1 : Int) ∧ bits .xor .u32 (e : Int) 4294967295 = (n2 : Int) ∧ bits .and .u32 (n2 : Int) (g : Int) = (n3 : Int) ∧ bits .or .u32 (n1 : Int) (n3 : Int) = (z : Int) ∧
    bits .xor .u32 IntKind.u32.max (e : Int) = (n2 : Int) ∧ bits .xor .u32 (n1 : Int) (n3 : Int) = (z : Int) := by
  refine ⟨e &&& f, 4294967295 ^^^ e, (4294967295 ^^^ e) &&& g, _, rfl, u32a _ _ he hf, ?_, u32a _ _ (not_lt32 _ he) hg, ?_, u32n _ he, u32x _ _ (and_lt32 he) (and_lt32 (not_lt32 _ he))⟩
  · rw [Nat.xor_comm]
    exact u32x e 4294967295 he (by decide)
  · rw [u32o _ _ (and_lt32 he) (and_lt32 (not_lt32 _ he)), ← chN_or e f g he hf hg, Nat.xor_comm]
theorem mj_facts (a b c : Nat) (ha : a < m32) (hb : b < m32) (hc : c < m32) : ∃ n1 n2 n3 o1 x1 z : Nat, z = mjN a b c ∧ bits .and .u32 (a : Int) (b : Int) = (n1 : Int) ∧ bits .and .u32 (a : Int) (c : Int) = (n2 : Int) ∧ bits .and .u32 (b : Int) (c : Int) = (n3 : Int) ∧
    bits .or .u32 (n1 : Int) (n2 : Int) = (o1 : Int) ∧ bits .or .u32 (o1 : Int) (n3 : Int) = (z : Int) ∧ bits .xor .u32 (n1 : Int) (n2 : Int) = (x1 : Int) ∧ bits .xor .u32 (x1 : Int) (n3 : Int) = (z : Int) := by
  refine ⟨a &&& b, a &&& c, b &&& c, _, _, _, rfl, u32a _ _ ha hb, u32a _ _ ha hc, u32a _ _ hb hc, u32o _ _ (and_lt32 ha) (and_lt32 ha), ?_, u32x _ _ (and_lt32 ha) (and_lt32 ha), u32x _ _ (xor_lt32 (and_lt32 ha) (and_lt32 ha)) (and_lt32 hb)⟩
  rw [u32o _ _ (Nat.or_lt_two_pow (n := 32) (and_lt32 ha) (and_lt32 ha)) (and_lt32 hb), mjN_or]
theorem wrap_sum3 (t x y : Nat) : IntKind.u32.wrap (IntKind.u32.wrap ((t : Int) + (x : Int)) + (y : Int)) = (((t + (x + y) % m32) % m32 : Nat) : Int) := by
  rw [wrap_add32, wrap_add32]
  congr 1
  simp only [m32]
  omega
end Go.Proofs.YtambpgfmnbkhdaaDoor
