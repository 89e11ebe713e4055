/- The mathematics of a rolling sum: words of bytes, sums of texts, words apart. It names no program and proves no statement. -/
import Derived.Test.YtjihnagoebhinaaNums
namespace Go.Proofs.Ytjihnagoebhinaa
set_option linter.unusedVariables false
set_option linter.unusedSimpArgs false

def wa (seed c : Nat) : Nat := (seed + (c + 1) * 2654435769) % 4294967296
def wb (x : Nat) : Nat := (x ^^^ x / 65536) * 2246822507 % 4294967296
def wc (x : Nat) : Nat := (x ^^^ x / 8192) * 3266489909 % 4294967296
/-- A byte's word. -/
def wd (seed c : Nat) : Nat := wc (wb (wa seed c)) ^^^ wc (wb (wa seed c)) / 65536
theorem wa_lt (seed c : Nat) : wa seed c < 4294967296 := Nat.mod_lt _ (by omega)
theorem wb_lt (x : Nat) : wb x < 4294967296 := Nat.mod_lt _ (by omega)
theorem wc_lt (x : Nat) : wc x < 4294967296 := Nat.mod_lt _ (by omega)
theorem mix_lt (x k : Nat) (h : x < 4294967296) : x ^^^ x / k < 4294967296 :=
  Nat.xor_lt_two_pow (n := 32) h (Nat.lt_of_le_of_lt (Nat.div_le_self _ _) h)
theorem wd_lt (seed c : Nat) : wd seed c < 4294967296 := mix_lt _ _ (wc_lt _)

theorem shift_bit (x k j : Nat) : (x ^^^ x / 2 ^ k).testBit j = (x.testBit j ^^ x.testBit (j + k)) := by
  rw [Nat.testBit_xor, Nat.testBit_div_two_pow]
theorem mix16 (x : Nat) (h : x < 4294967296) : (x ^^^ x / 65536) ^^^ (x ^^^ x / 65536) / 65536 = x := by
  refine eq_of_bits 32 _ _ (mix_lt _ _ (mix_lt _ _ h)) h fun j hj => ?_
  rw [show (65536 : Nat) = 2 ^ 16 by rfl, shift_bit, shift_bit, shift_bit, bit_high 32 x (j + 16 + 16) h (by omega)]
  cases x.testBit j <;> cases x.testBit (j + 16) <;> rfl
def un13 (y : Nat) : Nat := (y ^^^ y / 8192) ^^^ (y ^^^ y / 8192) / 67108864
theorem mix13 (x : Nat) (h : x < 4294967296) : un13 (x ^^^ x / 8192) = x := by
  unfold un13
  refine eq_of_bits 32 _ _ (mix_lt _ _ (mix_lt _ _ (mix_lt _ _ h))) h fun j hj => ?_
  rw [show (67108864 : Nat) = 2 ^ 26 by rfl, shift_bit]
  rw [show (8192 : Nat) = 2 ^ 13 by rfl, shift_bit, shift_bit, shift_bit, shift_bit, shift_bit, shift_bit]
  rw [show j + 13 + 13 = j + 26 by omega, bit_high 32 x (j + 26 + 13 + 13) h (by omega), bit_high 32 x (j + 26 + 13) h (by omega)]
  cases x.testBit j <;> cases x.testBit (j + 13) <;> cases x.testBit (j + 26) <;> rfl
theorem mix16_inj {x y : Nat} (hx : x < 4294967296) (hy : y < 4294967296) (h : x ^^^ x / 65536 = y ^^^ y / 65536) : x = y := by
  rw [← mix16 x hx, h, mix16 y hy]
theorem mix13_inj {x y : Nat} (hx : x < 4294967296) (hy : y < 4294967296) (h : x ^^^ x / 8192 = y ^^^ y / 8192) : x = y := by
  have h1 := mix13 x hx
  have h2 := mix13 y hy
  rw [h] at h1
  exact h1.symm.trans h2
theorem mul_inj {x y k i : Nat} (hx : x < 4294967296) (hy : y < 4294967296) (hk : k * i % 4294967296 = 1) (h : x * k % 4294967296 = y * k % 4294967296) : x = y := by
  have e : ∀ z, z < 4294967296 → (z * k % 4294967296) * i % 4294967296 = z := by
    intro z hz
    rw [Nat.mod_mul_mod, Nat.mul_assoc, Nat.mul_mod, hk, Nat.mul_one, Nat.mod_mod, Nat.mod_eq_of_lt hz]
  rw [← e x hx, h, e y hy]
theorem mod_cancel {s p q : Nat} (h : (s + p) % 4294967296 = (s + q) % 4294967296) : p % 4294967296 = q % 4294967296 := by omega
theorem wa_inj {seed a b : Nat} (ha : a < 256) (hb : b < 256) (h : wa seed a = wa seed b) : a = b := by
  obtain ⟨p, hp⟩ : ∃ p, p = a + 1 := ⟨_, rfl⟩
  obtain ⟨q, hq⟩ : ∃ q, q = b + 1 := ⟨_, rfl⟩
  have ha1 : p < 4294967296 := by clear h; omega
  have hb1 : q < 4294967296 := by clear h; omega
  have hpq : p = q → a = b := by clear h; omega
  unfold wa at h
  rw [← hp, ← hq] at h
  have h4 := mod_cancel h
  have h5 := mul_inj ha1 hb1 (i := 340573321) (by simp) h4
  exact hpq h5
/-- Unlike bytes have unlike words. -/
theorem wd_inj {seed a b : Nat} (ha : a < 256) (hb : b < 256) (h : wd seed a = wd seed b) : a = b := by
  unfold wd at h
  have h1 := mix16_inj (wc_lt _) (wc_lt _) h
  unfold wc at h1
  have h2 := mix13_inj (wb_lt _) (wb_lt _) (mul_inj (mix_lt _ _ (wb_lt _)) (mix_lt _ _ (wb_lt _)) (i := 2127672349) (by simp) h1)
  unfold wb at h2
  have h3 := mix16_inj (wa_lt _ _) (wa_lt _ _) (mul_inj (mix_lt _ _ (wa_lt _ _)) (mix_lt _ _ (wa_lt _ _)) (i := 2781581891) (by simp) h2)
  exact wa_inj ha hb h3

/-- A sum that goes on. -/
def go1 (s w : Nat) : Nat := rotl 32 s 1 ^^^ w
def smG (seed s : Nat) (l : List UInt8) : Nat := l.foldl (fun s c => go1 s (wd seed c.toNat)) s
/-- A text's sum. -/
def sm (seed : Nat) (l : List UInt8) : Nat := smG seed 0 l
theorem go1_lt {s w : Nat} (hs : s < 4294967296) (hw : w < 4294967296) : go1 s w < 4294967296 :=
  Nat.xor_lt_two_pow (n := 32) (rotl_lt 32 s 1 hs) hw
theorem smG_lt (seed s : Nat) (l : List UInt8) (hs : s < 4294967296) : smG seed s l < 4294967296 := by
  induction l generalizing s with
  | nil => exact hs
  | cons c t ih => exact ih _ (go1_lt hs (wd_lt _ _))
theorem sm_lt (seed : Nat) (l : List UInt8) : sm seed l < 4294967296 := smG_lt seed 0 l (by omega)
theorem sm_nil (seed : Nat) : sm seed [] = 0 := rfl
theorem sm_snoc (seed : Nat) (l : List UInt8) (c : UInt8) : sm seed (l ++ [c]) = go1 (sm seed l) (wd seed c.toNat) := by
  simp [sm, smG, List.foldl_append]
theorem rotl_xor (x y s : Nat) (hx : x < 4294967296) (hy : y < 4294967296) (hs : s < 32) : rotl 32 (x ^^^ y) s = rotl 32 x s ^^^ rotl 32 y s := by
  have hxy : x ^^^ y < 2 ^ 32 := Nat.xor_lt_two_pow (n := 32) hx hy
  refine eq_of_bits 32 _ _ (rotl_lt _ _ _ hxy) (Nat.xor_lt_two_pow (rotl_lt 32 _ _ hx) (rotl_lt 32 _ _ hy)) fun j hj => ?_
  rw [rotl_bit 32 _ s j hxy hs hj, Nat.testBit_xor, Nat.testBit_xor, rotl_bit 32 x s j hx hs hj, rotl_bit 32 y s j hy hs hj]
theorem rotl_1 (x n : Nat) (hx : x < 4294967296) : rotl 32 (rotl 32 x (n % 32)) 1 = rotl 32 x ((n + 1) % 32) := by
  rw [rotl_add32 x (n % 32) 1 hx (by omega) (by omega)]
  congr 1
  omega
/-- Whatever came ahead is turned by as many places as bytes come behind. -/
theorem smG_split (seed s : Nat) (l : List UInt8) (hs : s < 4294967296) : smG seed s l = rotl 32 s (l.length % 32) ^^^ sm seed l := by
  have key : ∀ (l : List UInt8), smG seed s l = rotl 32 s (l.length % 32) ^^^ sm seed l := by
    intro l
    induction hn : l.length generalizing l with
    | zero =>
      have : l = [] := List.eq_nil_of_length_eq_zero hn
      subst this
      rw [show (0 % 32 : Nat) = 0 by rfl, rotl_zero 32 s hs (by omega), sm_nil, Nat.xor_zero]
      rfl
    | succ n ih =>
      obtain ⟨t, c, rfl⟩ : ∃ t c, l = t ++ [c] := ⟨l.dropLast, l.getLast (by intro e; simp [e] at hn), (List.dropLast_concat_getLast _).symm⟩
      have ht : t.length = n := by simpa using hn
      rw [sm_snoc]
      have e1 : smG seed s (t ++ [c]) = go1 (smG seed s t) (wd seed c.toNat) := by simp [smG, List.foldl_append]
      rw [e1, ih t ht]
      unfold go1
      rw [rotl_xor _ _ 1 (rotl_lt 32 _ _ hs) (sm_lt _ _) (by omega), rotl_1 s n hs, Nat.xor_assoc]
  exact key l
theorem sm_cons (seed : Nat) (c : UInt8) (l : List UInt8) : sm seed (c :: l) = rotl 32 (wd seed c.toNat) (l.length % 32) ^^^ sm seed l := by
  have e : sm seed (c :: l) = smG seed (go1 0 (wd seed c.toNat)) l := rfl
  have e0 : rotl 32 0 1 = 0 := by decide
  rw [e, smG_split _ _ _ (go1_lt (by omega) (wd_lt _ _)), go1, e0, Nat.zero_xor]
/-- One byte comes behind, the eldest goes. -/
theorem sm_roll (seed : Nat) (a c : UInt8) (t : List UInt8) : go1 (sm seed (a :: t)) (wd seed c.toNat) ^^^ rotl 32 (wd seed a.toNat) ((t.length + 1) % 32) = sm seed (t ++ [c]) := by
  have e : sm seed (a :: t ++ [c]) = rotl 32 (wd seed a.toNat) ((t ++ [c]).length % 32) ^^^ sm seed (t ++ [c]) := sm_cons seed a (t ++ [c])
  rw [sm_snoc] at e
  rw [e, List.length_append, List.length_singleton, Nat.xor_comm (rotl _ _ _), Nat.xor_assoc, Nat.xor_self, Nat.xor_zero]
/-- The document's way: all words, turned. -/
def smR (seed : Nat) (l : List UInt8) (k : Nat) : Nat := (List.range k).foldl (fun x i => x ^^^ rotl 32 (wd seed (l.getD i 0).toNat) ((l.length - 1 - i) % 32)) 0
theorem smR_succ (seed : Nat) (l : List UInt8) (k : Nat) : smR seed l (k + 1) = smR seed l k ^^^ rotl 32 (wd seed (l.getD k 0).toNat) ((l.length - 1 - k) % 32) := by
  simp [smR, List.range_succ, List.foldl_append]
theorem smR_lt (seed : Nat) (l : List UInt8) (k : Nat) : smR seed l k < 4294967296 := by
  induction k with
  | zero => simp [smR]
  | succ k ih => rw [smR_succ]; exact Nat.xor_lt_two_pow (n := 32) ih (rotl_lt 32 _ _ (wd_lt _ _))
theorem smR_part (seed : Nat) (l : List UInt8) (k : Nat) (hk : k ≤ l.length) : sm seed l = smR seed l k ^^^ sm seed (l.drop k) := by
  induction k with
  | zero => simp [smR]
  | succ k ih =>
    rw [ih (by omega), smR_succ, List.drop_eq_getElem_cons (show k < l.length by omega), sm_cons, Nat.xor_assoc]
    have e1 : l.getD k 0 = l[k] := by simp [List.getD, show k < l.length by omega]
    rw [e1, List.length_drop, show l.length - (k + 1) = l.length - 1 - k by omega]
theorem smR_all (seed : Nat) (l : List UInt8) : smR seed l l.length = sm seed l := by
  rw [smR_part seed l l.length (Nat.le_refl _), List.drop_length, sm_nil, Nat.xor_zero]
/-- The last n. -/
def lastL (n : Nat) (l : List UInt8) : List UInt8 := l.drop (l.length - n)
theorem lastL_length (n : Nat) (l : List UInt8) : (lastL n l).length = min n l.length := by simp [lastL]; omega
theorem lastL_snoc_few (n : Nat) (l : List UInt8) (c : UInt8) (h : l.length < n) : lastL n (l ++ [c]) = lastL n l ++ [c] := by
  unfold lastL
  rw [List.length_append, List.length_singleton, show l.length + 1 - n = 0 by omega, show l.length - n = 0 by omega]
  simp
theorem lastL_snoc_full (n : Nat) (l : List UInt8) (c : UInt8) (hn : 0 < n) (h : n ≤ l.length) : ∃ t, lastL n l = l.getD (l.length - n) 0 :: t ∧ lastL n (l ++ [c]) = t ++ [c] ∧ t.length + 1 = n := by
  refine ⟨l.drop (l.length - n + 1), ?_, ?_, by rw [List.length_drop]; omega⟩
  · unfold lastL
    rw [List.drop_eq_getElem_cons (show l.length - n < l.length by omega)]
    simp [List.getD, show l.length - n < l.length by omega]
  · unfold lastL
    rw [List.length_append, List.length_singleton, show l.length + 1 - n = l.length - n + 1 by omega, List.drop_append_of_le_length (by omega)]
theorem lastL_append (n : Nat) (a b : List UInt8) (h : n ≤ b.length) : lastL n (a ++ b) = lastL n b := by
  unfold lastL
  rw [List.length_append, show a.length + b.length - n = a.length + (b.length - n) by omega, List.drop_append]
  simp
end Go.Proofs.Ytjihnagoebhinaa
