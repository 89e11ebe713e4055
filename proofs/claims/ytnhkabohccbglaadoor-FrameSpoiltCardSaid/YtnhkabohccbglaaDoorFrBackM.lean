/- What is encoded is read as it was, whatever stands behind; a front of it is too short: on lists of bytes. It proves no statement. -/
import Derived.Test.YtnhkabohccbglaaDoorFrameReadsWalk
namespace Go.Proofs.YtnhkabohccbglaaDoor
open Go.RowKit
set_option linter.unusedVariables false
set_option linter.unusedSimpArgs false

theorem leNum_le (x n : Nat) : leNum (leBytes x n) = x % 2 ^ (8 * n) := by
  induction n with
  | zero => simp [leBytes, leNum, Nat.mod_one]
  | succ n ih =>
    rw [leBytes_succ, leNum_snoc, ih, leBytes_length]
    simp only [UInt8.toNat_ofNat']
    rw [show 8 * (n + 1) = 8 * n + 8 by omega, Nat.pow_add, Nat.mod_mul, Nat.mul_comm (x / 2 ^ (8 * n) % 2 ^ 8)]
section
variable {t : Int} {K D R : List UInt8}
theorem bytE_tag (t : Int) (K D R : List UInt8) (ht : 0 ≤ t ∧ t ≤ 2) : tagE (bytE t K D ++ R) = t.toNat := by
  unfold tagE bytE bodE
  have h : ((leBytes (crcSum (leBytes (szE t K D.length) 4 ++ ([UInt8.ofNat t.toNat] ++ (keyE t K ++ D)))) 4 ++ (leBytes (szE t K D.length) 4 ++ ([UInt8.ofNat t.toNat] ++ (keyE t K ++ D)))) ++ R).getD 8 0 = UInt8.ofNat t.toNat := by
    generalize crcSum _ = q
    generalize szE t K D.length = z
    rw [List.getD_eq_getElem?_getD, List.append_assoc, List.getElem?_append_right (by rw [leBytes_length]; omega), leBytes_length, List.append_assoc, List.getElem?_append_right (by rw [leBytes_length]; omega), leBytes_length]
    rfl
  rw [h]
  simp
  omega
theorem bytE_size (hK : K.length = 32) (h : ckE t K D.length = 0) : sizE (bytE t K D ++ R) = szE t K D.length := by
  have hz := szE_len hK h
  unfold sizE
  have e : ((bytE t K D ++ R).drop 4).take 4 = leBytes (szE t K D.length) 4 := by
    unfold bytE
    rw [List.append_assoc, List.drop_left' (leBytes_length _ _)]
    unfold bodE
    rw [List.append_assoc, List.take_left' (leBytes_length _ _)]
  rw [e, leNum_le]
  omega
theorem tag_range (h : ckE t K D.length = 0) : 0 ≤ t ∧ t ≤ 2 := by
  rcases ckE_zero h with h | h | h <;> omega
theorem fit_yes (hK : K.length = 32) (h : ckE t K D.length = 0) : fitE t.toNat (szE t K D.length) = true := by
  have hs : szE t K D.length = if t = 2 then 9 else 41 + D.length := by unfold szE; rw [if_neg (by rw [h]; decide)]
  rw [hs]
  unfold fitE
  rcases ckE_zero h with ⟨rfl, h2⟩ | ⟨rfl, h2⟩ | ⟨rfl, h2, _⟩
  · rw [if_neg (by decide : ¬ (0 : Int) = 2), if_pos (by rfl)]
    simp
    omega
  · rw [if_neg (by decide : ¬ (1 : Int) = 2), if_neg (by decide), if_pos (by rfl), h2]
    rfl
  · rw [if_pos rfl, if_neg (by decide), if_neg (by decide), if_pos (by rfl)]
    rfl
theorem told_back (hK : K.length = 32) (h : ckE t K D.length = 0) : (toE (bytE t K D ++ R)).2 = 0 := by
  have hz := szE_len hK h
  unfold toE
  rw [bytE_size hK h, bytE_tag _ _ _ _ (tag_range h), fit_yes hK h, List.length_append, hz.1, if_neg (by omega), if_neg (by simp), if_neg (by omega)]
theorem rd_back (hK : K.length = 32) (h : ckE t K D.length = 0) :
    rdE (bytE t K D ++ R) = 0 ∧ rdT (bytE t K D ++ R) = t ∧ rdK (bytE t K D ++ R) = K ∧ rdD (bytE t K D ++ R) = D ∧ rdN (bytE t K D ++ R) = (bytE t K D).length := by
  have hz := szE_len hK h
  have ht := tag_range h
  have e1 : (bytE t K D ++ R).take (szE t K D.length) = bytE t K D := List.take_left' hz.1
  have e2 : (bytE t K D).drop 4 = bodE t K D := by unfold bytE; exact List.drop_left' (leBytes_length _ _)
  have e3 : (bytE t K D ++ R).take 4 = leBytes (crcSum (bodE t K D)) 4 := by unfold bytE; rw [List.append_assoc, List.take_left' (leBytes_length _ _)]
  have hE : rdE (bytE t K D ++ R) = 0 := by
    unfold rdE
    rw [if_neg (by rw [told_back hK h]; decide), bytE_size hK h, e1, e2, e3, leNum_le, if_pos]
    have : crcSum (bodE t K D) < 2 ^ 32 := crcAdd_lt 0 _ (by decide)
    omega
  have kd : (keyR t.toNat (bytE t K D) = K) ∧ datR t.toNat (bytE t K D) = D := by
    unfold keyR datR
    by_cases h2 : t = 2
    · rcases ckE_zero h with h' | h' | ⟨_, h3, h4⟩
      · omega
      · omega
      · rw [if_pos (by rw [h2]; rfl), if_pos (by rw [h2]; rfl)]
        exact ⟨h4.symm, (List.eq_nil_of_length_eq_zero h3).symm⟩
    · rw [if_neg (by omega), if_neg (by omega)]
      have e9 : (bytE t K D).drop 9 = K ++ D := by
        have : bytE t K D = (leBytes (crcSum (bodE t K D)) 4 ++ (leBytes (szE t K D.length) 4 ++ [UInt8.ofNat t.toNat])) ++ (K ++ D) := by
          unfold bytE
          conv => lhs; rhs; unfold bodE
          unfold keyE
          rw [if_neg h2]
          simp [List.append_assoc]
        rw [this]
        exact List.drop_left' (by simp [leBytes_length])
      refine ⟨by rw [e9]; exact List.take_left' hK, ?_⟩
      have : (bytE t K D).drop 41 = ((bytE t K D).drop 9).drop 32 := by rw [List.drop_drop]
      rw [this, e9]
      exact List.drop_left' hK
  refine ⟨hE, ?_, ?_, ?_, ?_⟩
  · unfold rdT
    rw [if_pos hE, bytE_tag _ _ _ _ ht]
    omega
  · unfold rdK
    rw [if_pos hE, bytE_tag _ _ _ _ ht, bytE_size hK h, e1]
    exact kd.1
  · unfold rdD
    rw [if_pos hE, bytE_tag _ _ _ _ ht, bytE_size hK h, e1]
    exact kd.2
  · unfold rdN
    rw [if_pos hE, bytE_size hK h, hz.1]
/-- All but the last byte of an entry: too short. -/
theorem rd_front (hK : K.length = 32) (h : ckE t K D.length = 0) : rdE ((bytE t K D).take ((bytE t K D).length - 1)) = 3 ∧ rdN ((bytE t K D).take ((bytE t K D).length - 1)) = 0 := by
  have hz := szE_len hK h
  obtain ⟨l, hl⟩ : ∃ l, l = (bytE t K D).take ((bytE t K D).length - 1) := ⟨_, rfl⟩
  have hlen : l.length = szE t K D.length - 1 := by rw [hl, List.length_take, hz.1]; omega
  have hE : rdE l = 3 := by
    have ht : (toE l).2 = 3 := by
      unfold toE
      by_cases h9 : l.length < 9
      · rw [if_pos h9]
      · rw [if_neg h9]
        have a1 : sizE l = szE t K D.length := by
          have h0 := bytE_size (R := []) hK h
          rw [List.append_nil] at h0
          rw [← h0]
          unfold sizE
          rw [hl, List.drop_take, List.take_take, Nat.min_eq_left (by omega)]
        have a2 : tagE l = t.toNat := by
          have h0 := bytE_tag t K D [] (tag_range h)
          rw [List.append_nil] at h0
          rw [← h0]
          unfold tagE
          rw [hl]
          simp only [List.getD, List.getElem?_take]
          rw [if_pos (by omega)]
        rw [a1, a2, fit_yes hK h, if_neg (by simp), if_pos (by omega)]
    unfold rdE
    rw [if_pos (by rw [ht]; decide), ht]
  rw [← hl]
  refine ⟨hE, ?_⟩
  unfold rdN
  rw [if_neg (by rw [hE]; decide)]
end
end Go.Proofs.YtnhkabohccbglaaDoor
