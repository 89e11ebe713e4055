/- Blocks on lists of bytes: how a length is laid, a sequence, what any text's block is, what any bytes tell as a block. It proves no statement. -/
import Derived.Test.YtcbolakhdndffaaLe
namespace Go.Proofs.Ytcbolakhdndffaa
set_option linter.unusedVariables false

/-- What of a number goes on behind its token. -/
def extL (n : Nat) : List UInt8 := if n < 15 then [] else List.replicate ((n - 15) / 255) 255 ++ [UInt8.ofNat ((n - 15) % 255)]
theorem extL_small {n : Nat} (h : n < 15) : extL n = [] := by unfold extL; rw [if_pos h]
theorem extL_big {n : Nat} (h : 15 ≤ n) : extL n = List.replicate ((n - 15) / 255) 255 ++ [UInt8.ofNat ((n - 15) % 255)] := by unfold extL; rw [if_neg (by omega)]
theorem extL_length (n : Nat) : (extL n).length = (n + 240) / 255 := by
  unfold extL
  split
  · simp; omega
  · simp; omega
def tokL (a m : Nat) : UInt8 := UInt8.ofNat (min a 15 * 16 + min m 15)
theorem tokL_nat (a m : Nat) : (tokL a m).toNat = min a 15 * 16 + min m 15 := by
  unfold tokL
  rw [UInt8.toNat_ofNat']
  omega
/-- A token, and bytes as they are. -/
def litB (l : List UInt8) (m : Nat) : List UInt8 := tokL l.length m :: (extL l.length ++ l)
theorem litB_length (l : List UInt8) (m : Nat) : (litB l m).length = 1 + (l.length + 240) / 255 + l.length := by
  unfold litB
  simp [extL_length]; omega
/-- A sequence that is not the last. -/
def seqB (l : List UInt8) (d k : Nat) : List UInt8 := litB l (k - 4) ++ ([UInt8.ofNat d, UInt8.ofNat (d / 256)] ++ extL (k - 4))
theorem seqB_length (l : List UInt8) (d k : Nat) : (seqB l d k).length = 3 + (l.length + 240) / 255 + l.length + (k - 4 + 240) / 255 := by
  unfold seqB
  simp [litB_length, extL_length]; omega

/-- How many bytes two texts have alike at their beginnings. -/
def alk : List UInt8 → List UInt8 → Nat
  | x :: a, y :: b => if x = y then alk a b + 1 else 0
  | _, _ => 0
theorem alk_nil (b : List UInt8) : alk [] b = 0 := by unfold alk; rfl
theorem alk_nil2 (a : List UInt8) : alk a [] = 0 := by cases a <;> (unfold alk; rfl)
theorem alk_le (a b : List UInt8) : alk a b ≤ a.length ∧ alk a b ≤ b.length := by
  induction a generalizing b with
  | nil => simp [alk_nil]
  | cons x a ih =>
    cases b with
    | nil => simp [alk_nil2]
    | cons y b =>
      unfold alk
      have := ih b
      split <;> simp <;> omega
theorem alk_take (a b : List UInt8) : a.take (alk a b) = b.take (alk a b) := by
  induction a generalizing b with
  | nil => simp [alk_nil]
  | cons x a ih =>
    cases b with
    | nil => simp [alk_nil2]
    | cons y b =>
      unfold alk
      split
      · rename_i h
        subst h
        simp [ih b]
      · simp
theorem alk_ge (a b : List UInt8) (k : Nat) (ha : k ≤ a.length) (hb : k ≤ b.length) (h : a.take k = b.take k) : k ≤ alk a b := by
  induction k generalizing a b with
  | zero => omega
  | succ k ih =>
    match a, b with
    | [], b => simp at ha
    | x :: a, [] => simp at hb
    | x :: a, y :: b =>
      simp only [List.take_succ_cons, List.cons.injEq] at h
      simp only [List.length_cons] at ha hb
      unfold alk
      rw [if_pos h.1]
      have := ih a b (by omega) (by omega) h.2
      omega
theorem getD_drop0 (a : List UInt8) (k : Nat) (h : k < a.length) : a.drop k = a.getD k 0 :: a.drop (k + 1) := by
  rw [List.drop_eq_getElem_cons h]
  simp [List.getD, h]
theorem alk_step (a b : List UInt8) (k : Nat) (ha : k < a.length) (hb : k < b.length) (h : a.getD k 0 = b.getD k 0) : alk (a.drop k) (b.drop k) = alk (a.drop (k + 1)) (b.drop (k + 1)) + 1 := by
  rw [getD_drop0 a k ha, getD_drop0 b k hb]
  rw [alk, if_pos h]
theorem alk_stop (a b : List UInt8) (k : Nat) (h : k < a.length → k < b.length → a.getD k 0 ≠ b.getD k 0) : alk (a.drop k) (b.drop k) = 0 := by
  by_cases ha : k < a.length
  · by_cases hb : k < b.length
    · rw [getD_drop0 a k ha, getD_drop0 b k hb, alk, if_neg (h ha hb)]
    · rw [List.drop_of_length_le (l := b) (by omega), alk_nil2]
  · rw [List.drop_of_length_le (l := a) (by omega), alk_nil]

/-- The hash of four bytes. -/
def hsh (l : List UInt8) : Nat := leNum l * 2654435761 % 4294967296 / 1048576
theorem hsh_lt (l : List UInt8) : hsh l < 4096 := by unfold hsh; omega

/-- What Squeeze keeps as it goes: the table (one more than a place; 0: none), what was laid, what was told, where it stands. -/
structure Sq where
  tab : Nat → Nat
  out : List UInt8
  told : Nat
  i : Nat
/-- The place that the table has, and one more. -/
def Sq.c1 (b : List UInt8) (s : Sq) : Nat := s.tab (hsh ((b.drop s.i).take 4))
def Sq.tab' (b : List UInt8) (s : Sq) : Nat → Nat := fun j => if j = hsh ((b.drop s.i).take 4) then s.i + 1 else s.tab j
/-- Whether something is found. -/
def Sq.hit (b : List UInt8) (s : Sq) : Prop := s.c1 b ≠ 0 ∧ (b.drop (s.c1 b - 1)).take 4 = (b.drop s.i).take 4
instance (b : List UInt8) (s : Sq) : Decidable (s.hit b) := by unfold Sq.hit; exact inferInstance
def Sq.k (b : List UInt8) (s : Sq) : Nat := alk (b.drop (s.c1 b - 1)) ((b.take (b.length - 5)).drop s.i)
def Sq.miss (b : List UInt8) (s : Sq) : Sq := ⟨s.tab' b, s.out, s.told, s.i + 1⟩
def Sq.got (b : List UInt8) (s : Sq) : Sq := ⟨s.tab' b, s.out ++ seqB ((b.take s.i).drop s.told) (s.i - (s.c1 b - 1)) (s.k b), s.i + s.k b, s.i + s.k b⟩
def Sq.step (b : List UInt8) (s : Sq) : Sq := if s.hit b then s.got b else s.miss b
def sqRun (b : List UInt8) : Nat → Sq → Sq
  | 0, s => s
  | f + 1, s => if s.i + 12 ≤ b.length then sqRun b f (s.step b) else s
def sq0 : Sq := ⟨fun _ => 0, [], 0, 0⟩
/-- A text's block. -/
def sqz (b : List UInt8) : List UInt8 := (sqRun b b.length sq0).out ++ litB (b.drop (sqRun b b.length sq0).told) 0
/-- What Squeeze answers. -/
def sqE (b : List UInt8) : Int := if b.length ≤ 65536 then 0 else 5
def sqB (b : List UInt8) : List UInt8 := if b.length ≤ 65536 then sqz b else []

/-- What always holds. -/
structure SqOK (b : List UInt8) (s : Sq) : Prop where
  told : s.told ≤ s.i
  tab : ∀ j, s.tab j ≤ s.i
  len : 255 * s.out.length ≤ 256 * s.told
  fit : s.i ≤ b.length
theorem SqOK.zero (b : List UInt8) : SqOK b sq0 := ⟨Nat.le_refl _, fun _ => Nat.le_refl _, by simp [sq0], Nat.zero_le _⟩
theorem SqOK.c (b : List UInt8) {s : Sq} (h : SqOK b s) : s.c1 b ≤ s.i := h.tab _
theorem SqOK.kk {b : List UInt8} {s : Sq} (h : SqOK b s) (hi : s.i + 12 ≤ b.length) (hh : s.hit b) : 4 ≤ s.k b ∧ s.i + s.k b + 5 ≤ b.length := by
  have hc := SqOK.c b h
  have h0 := hh.1
  constructor
  · unfold Sq.k
    refine alk_ge _ _ 4 (by simp; omega) (by simp; omega) ?_
    rw [hh.2, List.drop_take, List.take_take, Nat.min_eq_left (by omega)]
  · have := (alk_le (b.drop (s.c1 b - 1)) ((b.take (b.length - 5)).drop s.i)).2
    simp only [List.length_drop, List.length_take] at this
    unfold Sq.k
    omega
theorem SqOK.miss {b : List UInt8} {s : Sq} (h : SqOK b s) (hi : s.i + 12 ≤ b.length) : SqOK b (s.miss b) := by
  refine ⟨by have := h.told; simp only [Sq.miss]; omega, fun j => ?_, h.len, by simp only [Sq.miss]; omega⟩
  have := h.tab j
  simp only [Sq.miss, Sq.tab']
  split <;> omega
theorem SqOK.got {b : List UInt8} {s : Sq} (h : SqOK b s) (hi : s.i + 12 ≤ b.length) (hh : s.hit b) : SqOK b (s.got b) := by
  have hk := h.kk hi hh
  have ht := h.told
  have hl := h.len
  refine ⟨Nat.le_refl _, fun j => ?_, ?_, by simp only [Sq.got]; omega⟩
  · have := h.tab j
    simp only [Sq.got, Sq.tab']
    split <;> omega
  · simp only [Sq.got, List.length_append, seqB_length, List.length_drop, List.length_take]
    omega
theorem SqOK.step {b : List UInt8} {s : Sq} (h : SqOK b s) (hi : s.i + 12 ≤ b.length) : SqOK b (s.step b) := by
  unfold Sq.step
  split
  · exact h.got hi ‹_›
  · exact h.miss hi
theorem sqRun_end {b : List UInt8} {s : Sq} (f : Nat) (h : ¬ s.i + 12 ≤ b.length) : sqRun b f s = s := by
  cases f with
  | zero => rfl
  | succ f => rw [sqRun, if_neg h]
theorem sqRun_step {b : List UInt8} {s : Sq} (f : Nat) (h : s.i + 12 ≤ b.length) : sqRun b (f + 1) s = sqRun b f (s.step b) := by rw [sqRun, if_pos h]
theorem step_miss {b : List UInt8} {s : Sq} (h : ¬ s.hit b) : s.step b = s.miss b := by unfold Sq.step; rw [if_neg h]
theorem step_got {b : List UInt8} {s : Sq} (h : s.hit b) : s.step b = s.got b := by unfold Sq.step; rw [if_pos h]
/-- A loop that goes on with s will answer what Squeeze answers. -/
def Goes (b : List UInt8) (s : Sq) : Prop := SqOK b s ∧ ∃ f, b.length - s.i ≤ f ∧ sqRun b b.length sq0 = sqRun b f s
theorem Goes.zero (b : List UInt8) : Goes b sq0 := ⟨SqOK.zero b, b.length, by simp, rfl⟩
theorem Goes.step {b : List UInt8} {s : Sq} (h : Goes b s) (hi : s.i + 12 ≤ b.length) : Goes b (s.step b) := by
  obtain ⟨ok, f, hf, e⟩ := h
  cases f with
  | zero => omega
  | succ f =>
    refine ⟨ok.step hi, f, ?_, by rw [e, sqRun_step f hi]⟩
    unfold Sq.step
    split
    · have := (ok.kk hi ‹_›).1
      simp only [Sq.got]; omega
    · simp only [Sq.miss]; omega
theorem Goes.end_ {b : List UInt8} {s : Sq} (h : Goes b s) (hi : ¬ s.i + 12 ≤ b.length) : sqz b = s.out ++ litB (b.drop s.told) 0 := by
  obtain ⟨ok, f, hf, e⟩ := h
  unfold sqz
  rw [e, sqRun_end f hi]
end Go.Proofs.Ytcbolakhdndffaa
