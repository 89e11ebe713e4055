/- Mathematics: what is squeezed is loosened as it was; how long a block is; what a beginning of a block tells. It proves no statement. -/
import Derived.Test.YtcbolakhdndffaaLzLoMath
namespace Go.Proofs.Ytcbolakhdndffaa
set_option linter.unusedVariables false

theorem extR_rep (q r m : Nat) (rest : List UInt8) (hr : r < 255) : extR m (List.replicate q 255 ++ (UInt8.ofNat r :: rest)) = some (m + 255 * q + r, rest) := by
  induction q generalizing m with
  | zero =>
    have e : (UInt8.ofNat r).toNat = r := by rw [UInt8.toNat_ofNat']; omega
    simp only [List.replicate_zero, List.nil_append, extR]
    rw [if_neg (by omega), e]
    simp
  | succ q ih =>
    simp only [List.replicate_succ, List.cons_append, extR]
    rw [if_pos (by decide), ih]
    congr 2
    omega
theorem extR_none (q m : Nat) : extR m (List.replicate q 255) = none := by
  induction q generalizing m with
  | zero => rfl
  | succ q ih =>
    simp only [List.replicate_succ, extR]
    rw [if_pos (by decide), ih]
theorem numR_ext (n : Nat) (rest : List UInt8) : numR (min n 15) (extL n ++ rest) = some (n, rest) := by
  by_cases h : n < 15
  · rw [extL_small h, Nat.min_eq_left (by omega)]
    unfold numR
    rw [if_pos h]
    rfl
  · rw [extL_big (by omega), Nat.min_eq_right (by omega)]
    unfold numR
    rw [if_neg (by omega), List.append_assoc, List.singleton_append, extR_rep _ _ _ _ (by omega)]
    congr 2
    omega
theorem numR_cut (n j : Nat) (h : j < (extL n).length) : numR (min n 15) ((extL n).take j) = none := by
  by_cases h15 : n < 15
  · rw [extL_small h15] at h; simp at h
  · rw [extL_big (by omega)] at h ⊢
    simp only [List.length_append, List.length_replicate, List.length_cons, List.length_nil] at h
    rw [Nat.min_eq_right (by omega), List.take_append_of_le_length (by simp; omega), List.take_replicate]
    unfold numR
    rw [if_neg (by omega)]
    exact extR_none _ _
theorem tok_div (a m : Nat) : (tokL a m).toNat / 16 = min a 15 := by rw [tokL_nat]; omega
theorem tok_mod (a m : Nat) : (tokL a m).toNat % 16 = min m 15 := by rw [tokL_nat]; omega
theorem dist_num (d : Nat) (h : d < 65536) (rest : List UInt8) : leNum ((UInt8.ofNat d :: UInt8.ofNat (d / 256) :: rest).take 2) = d := by
  simp only [List.take_succ_cons, List.take_zero, leNum, UInt8.toNat_ofNat']
  omega

/-- A block: one sequence behind the other. -/
def encS (S : List (List UInt8 × Nat × Nat)) : List UInt8 := S.flatMap (fun s => seqB s.1 s.2.1 s.2.2)
def decS (t : List UInt8) : List (List UInt8 × Nat × Nat) → List UInt8
  | [] => t
  | s :: S => decS (backL s.2.1 s.2.2 (t ++ s.1)) S
/-- Sequences that tell something, of a text of n bytes. -/
def Good (n : Nat) (t : List UInt8) : List (List UInt8 × Nat × Nat) → Prop
  | [] => True
  | s :: S => (1 ≤ s.2.1 ∧ s.2.1 ≤ (t ++ s.1).length ∧ s.2.1 < 65536 ∧ 4 ≤ s.2.2 ∧ (t ++ s.1).length + 12 ≤ n) ∧ Good n (backL s.2.1 s.2.2 (t ++ s.1)) S
theorem encS_cons (s : List UInt8 × Nat × Nat) (S : List (List UInt8 × Nat × Nat)) : encS (s :: S) = seqB s.1 s.2.1 s.2.2 ++ encS S := by simp [encS]
theorem encS_snoc (s : List UInt8 × Nat × Nat) (S : List (List UInt8 × Nat × Nat)) : encS (S ++ [s]) = encS S ++ seqB s.1 s.2.1 s.2.2 := by simp [encS]
theorem decS_snoc (t : List UInt8) (s : List UInt8 × Nat × Nat) (S : List (List UInt8 × Nat × Nat)) : decS t (S ++ [s]) = backL s.2.1 s.2.2 (decS t S ++ s.1) := by
  induction S generalizing t with
  | nil => rfl
  | cons x S ih => exact ih _
theorem Good_snoc (n : Nat) (t : List UInt8) (s : List UInt8 × Nat × Nat) (S : List (List UInt8 × Nat × Nat)) (h : Good n t S) (hs : 1 ≤ s.2.1 ∧ s.2.1 ≤ (decS t S ++ s.1).length ∧ s.2.1 < 65536 ∧ 4 ≤ s.2.2 ∧ (decS t S ++ s.1).length + 12 ≤ n) : Good n t (S ++ [s]) := by
  induction S generalizing t with
  | nil => exact ⟨hs, True.intro⟩
  | cons x S ih => exact ⟨h.1, ih _ h.2 hs⟩
theorem backL_prefix (d k : Nat) (t : List UInt8) : t <+: backL d k t := by
  induction k generalizing t with
  | zero => exact List.prefix_refl _
  | succ k ih => exact (List.prefix_append t _).trans (ih _)
theorem decS_prefix (t : List UInt8) (S : List (List UInt8 × Nat × Nat)) : t <+: decS t S := by
  induction S generalizing t with
  | nil => exact List.prefix_refl _
  | cons x S ih => exact (List.prefix_append t x.1).trans ((backL_prefix _ _ _).trans (ih _))
theorem decS_len (t : List UInt8) (S : List (List UInt8 × Nat × Nat)) : t.length ≤ (decS t S).length := (decS_prefix t S).length_le

/-- Literals that lie whole. -/
theorem litS_whole (most : Nat) (l rest t : List UInt8) : litS most (min l.length 15) (extL l.length ++ (l ++ rest)) t = if most < t.length + l.length then (5, extL l.length ++ (l ++ rest), t) else (0, rest, t ++ l) := by
  unfold litS
  rw [numR_ext]
  simp only
  rw [if_neg (by simp)]
  split
  · rfl
  · simp
theorem backS_whole (most d m : Nat) (rest t : List UInt8) (hd : 1 ≤ d) (hdt : d ≤ t.length) (hd6 : d < 65536) : backS most (min m 15) (UInt8.ofNat d :: UInt8.ofNat (d / 256) :: (extL m ++ rest)) t = if most < t.length + (m + 4) then (5, UInt8.ofNat d :: UInt8.ofNat (d / 256) :: (extL m ++ rest), t) else (0, rest, backL d (m + 4) t) := by
  unfold backS
  rw [if_neg (by simp), dist_num d hd6, if_neg (by omega)]
  have e : (UInt8.ofNat d :: UInt8.ofNat (d / 256) :: (extL m ++ rest)).drop 2 = extL m ++ rest := rfl
  rw [e, numR_ext]
  rfl
theorem seqB_form (l : List UInt8) (d k : Nat) (rest : List UInt8) : seqB l d k ++ rest = tokL l.length (k - 4) :: (extL l.length ++ (l ++ (UInt8.ofNat d :: UInt8.ofNat (d / 256) :: (extL (k - 4) ++ rest)))) := by
  simp [seqB, litB]
/-- A sequence that is not the last. -/
theorem seqS_seq (most : Nat) (l : List UInt8) (d k : Nat) (rest t : List UInt8) (hd : 1 ≤ d) (hdt : d ≤ (t ++ l).length) (hd6 : d < 65536) (hk : 4 ≤ k) :
    (most < (t ++ l).length + k → (seqS most (seqB l d k ++ rest) t).1 = 5) ∧ (¬ most < (t ++ l).length + k → seqS most (seqB l d k ++ rest) t = (0, false, rest, backL d k (t ++ l))) := by
  rw [seqB_form]
  unfold seqS
  simp only
  rw [tok_div, tok_mod, litS_whole]
  by_cases h1 : most < t.length + l.length
  · rw [if_pos h1]
    refine ⟨fun _ => by simp, fun h => ?_⟩
    simp only [List.length_append] at h
    omega
  · rw [if_neg h1]
    simp only [ne_eq, not_true_eq_false, if_false, reduceCtorEq]
    rw [backS_whole most d (k - 4) rest (t ++ l) hd hdt hd6, show k - 4 + 4 = k by omega]
    by_cases h2 : most < (t ++ l).length + k
    · rw [if_pos h2]
      exact ⟨fun _ => rfl, fun h => absurd h2 h⟩
    · rw [if_neg h2]
      exact ⟨fun h => absurd h h2, fun _ => rfl⟩
/-- The last sequence. -/
theorem seqS_last' (most : Nat) (z t : List UInt8) : (most < (t ++ z).length → (seqS most (litB z 0) t).1 = 5) ∧ (¬ most < (t ++ z).length → seqS most (litB z 0) t = (0, true, [], t ++ z)) := by
  unfold litB seqS
  simp only
  have e : extL z.length ++ z = extL z.length ++ (z ++ []) := by simp
  rw [tok_div, e, litS_whole, List.length_append]
  by_cases h : most < t.length + z.length
  · rw [if_pos h]
    exact ⟨fun _ => by simp, fun h' => absurd h h'⟩
  · rw [if_neg h]
    exact ⟨fun h' => absurd h' h, fun _ => by simp⟩
theorem loR_enc (most n : Nat) (S : List (List UInt8 × Nat × Nat)) (z t : List UInt8) (f : Nat) (hf : S.length < f) (hg : Good n t S) :
    loR most f (encS S ++ litB z 0) t = if most < (decS t S ++ z).length then ([], 5) else (decS t S ++ z, 0) := by
  induction S generalizing t f with
  | nil =>
    obtain ⟨f, rfl⟩ : ∃ f', f = f' + 1 := ⟨f - 1, by simp at hf; omega⟩
    have h := seqS_last' most z t
    have e : encS [] ++ litB z 0 = litB z 0 := rfl
    rw [e, loR]
    by_cases hc : most < (t ++ z).length
    · rw [h.1 hc, if_pos (by decide)]
      exact (if_pos hc).symm
    · rw [h.2 hc]
      simp only [ne_eq, not_true_eq_false, if_false, if_true]
      exact (if_neg hc).symm
  | cons s S ih =>
    obtain ⟨f, rfl⟩ : ∃ f', f = f' + 1 := ⟨f - 1, by simp at hf; omega⟩
    obtain ⟨⟨g1, g2, g3, g4, g5⟩, hg2⟩ := hg
    have h := seqS_seq most s.1 s.2.1 s.2.2 (encS S ++ litB z 0) t g1 g2 g3 g4
    rw [encS_cons, List.append_assoc, loR]
    have hl : (decS (backL s.2.1 s.2.2 (t ++ s.1)) S).length ≥ (t ++ s.1).length + s.2.2 := by
      have := decS_len (backL s.2.1 s.2.2 (t ++ s.1)) S
      rw [backL_length] at this
      exact this
    by_cases hc : most < (t ++ s.1).length + s.2.2
    · rw [h.1 hc, if_pos (by decide), if_pos]
      show most < (decS (backL s.2.1 s.2.2 (t ++ s.1)) S ++ z).length
      rw [List.length_append]
      omega
    · rw [h.2 hc]
      simp only [ne_eq, not_true_eq_false, if_false, Bool.false_eq_true]
      rw [ih _ f (by simp at hf; omega) hg2]
      rfl

theorem backL_take (b : List UInt8) (c i k : Nat) (hc : c < i) (hk : i + k ≤ b.length) (he : ∀ j, j < k → b.getD (c + j) 0 = b.getD (i + j) 0) : backL (i - c) k (b.take i) = b.take (i + k) := by
  induction k generalizing c i with
  | zero => rfl
  | succ k ih =>
    unfold backL
    have hl : (b.take i).length = i := by simp; omega
    rw [hl, show i - (i - c) = c by omega]
    have e1 : (b.take i).getD c 0 = b.getD i 0 := by
      have := he 0 (by omega)
      simp only [Nat.add_zero] at this
      rw [← this]
      simp [List.getD, hc]
    have e2 : b.take i ++ [b.getD i 0] = b.take (i + 1) := by
      rw [List.take_add_one]
      congr 1
      simp [List.getD, show i < b.length by omega]
    rw [e1, e2]
    have := ih (c + 1) (i + 1) (by omega) (by omega) (fun j hj => by
      have := he (j + 1) (by omega)
      rw [show c + 1 + j = c + (j + 1) by omega, show i + 1 + j = i + (j + 1) by omega]
      exact this)
    rw [show i + 1 - (c + 1) = i - c by omega, show i + 1 + k = i + (k + 1) by omega] at this
    exact this

/-- What Squeeze has laid, at each turn. -/
structure SqS (b : List UInt8) (s : Sq) : Prop where
  ok : SqOK b s
  ex : ∃ S, s.out = encS S ∧ Good b.length [] S ∧ decS [] S = b.take s.told ∧ (S = [] ∨ s.told + 5 ≤ b.length)
theorem take_getD (a c : List UInt8) (k j : Nat) (h : a.take k = c.take k) (hj : j < k) : a.getD j 0 = c.getD j 0 := by
  have : (a.take k)[j]? = (c.take k)[j]? := by rw [h]
  simp only [List.getElem?_take, hj, if_true] at this
  simp [List.getD, this]
theorem SqS.step {b : List UInt8} {s : Sq} (h : SqS b s) (hi : s.i + 12 ≤ b.length) (h6 : b.length ≤ 65536) : SqS b (s.step b) := by
  refine ⟨h.ok.step hi, ?_⟩
  unfold Sq.step
  by_cases hh : s.hit b
  · rw [if_pos hh]
    obtain ⟨S, h1, h2, h3, h4⟩ := h.ex
    have ok := h.ok
    have hk := ok.kk hi hh
    have hc := SqOK.c b ok
    have hc0 := hh.1
    have ht := ok.told
    obtain ⟨q, hq⟩ : ∃ q, q = s.c1 b - 1 := ⟨_, rfl⟩
    obtain ⟨K, hK⟩ : ∃ K, K = s.k b := ⟨_, rfl⟩
    have hl : decS [] S ++ (b.take s.i).drop s.told = b.take s.i := by
      rw [h3]
      have : b.take s.told = (b.take s.i).take s.told := by rw [List.take_take, Nat.min_eq_left ht]
      rw [this, List.take_append_drop]
    have hb : backL (s.i - q) K (b.take s.i) = b.take (s.i + K) := by
      refine backL_take b q s.i K (by omega) (by omega) fun j hj => ?_
      have e := alk_take (b.drop q) ((b.take (b.length - 5)).drop s.i)
      have ek : alk (b.drop q) ((b.take (b.length - 5)).drop s.i) = K := by rw [hK, hq]; rfl
      rw [ek] at e
      have := take_getD _ _ K j e hj
      simp only [List.getD, List.getElem?_drop, List.getElem?_take] at this ⊢
      rw [if_pos (by omega)] at this
      exact this
    refine ⟨S ++ [((b.take s.i).drop s.told, s.i - q, K)], ?_, ?_, ?_, ?_⟩
    · show s.out ++ seqB ((b.take s.i).drop s.told) (s.i - (s.c1 b - 1)) (s.k b) = _
      rw [encS_snoc, h1, ← hq, ← hK]
    · refine Good_snoc _ _ _ _ h2 ?_
      simp only
      rw [hl]
      have : (b.take s.i).length = s.i := by simp; omega
      rw [this]
      omega
    · rw [decS_snoc]
      simp only
      rw [hl, hb]
      show b.take (s.i + K) = b.take (s.i + s.k b)
      rw [hK]
    · right
      show s.i + s.k b + 5 ≤ b.length
      omega
  · rw [if_neg hh]
    exact h.ex
theorem SqS.run {b : List UInt8} (f : Nat) {s : Sq} (h : SqS b s) (h6 : b.length ≤ 65536) : SqS b (sqRun b f s) := by
  induction f generalizing s with
  | zero => exact h
  | succ f ih =>
    unfold sqRun
    split
    · exact ih (h.step ‹_› h6)
    · exact h
theorem SqS.zero (b : List UInt8) : SqS b sq0 := ⟨SqOK.zero b, [], rfl, True.intro, by simp [decS, sq0], .inl rfl⟩
/-- The form of a text's block. -/
theorem sqz_form (b : List UInt8) (h6 : b.length ≤ 65536) : ∃ S told, sqz b = encS S ++ litB (b.drop told) 0 ∧ Good b.length [] S ∧ decS [] S = b.take told ∧ told ≤ b.length ∧ (S = [] ∨ told + 5 ≤ b.length) := by
  have h := SqS.run b.length (SqS.zero b) h6
  obtain ⟨S, h1, h2, h3, h4⟩ := h.ex
  refine ⟨S, (sqRun b b.length sq0).told, by unfold sqz; rw [h1], h2, h3, ?_, h4⟩
  have := h.ok.told
  have := h.ok.fit
  omega
theorem encS_length (S : List (List UInt8 × Nat × Nat)) : S.length ≤ (encS S).length := by
  induction S with
  | nil => simp
  | cons s S ih =>
    rw [encS_cons]
    simp only [List.length_append, List.length_cons, seqB_length]
    omega
/-- What was squeezed is loosened as it was, and not with less room. -/
theorem loose_sqz (b : List UInt8) (h6 : b.length ≤ 65536) (m : Nat) (hm : m ≤ 65536) : looseR (sqz b) m = if m < b.length then ([], 5) else (b, 0) := by
  obtain ⟨S, told, h1, h2, h3, h4, _⟩ := sqz_form b h6
  unfold looseR
  rw [if_neg (by omega), h1]
  have := encS_length S
  show loR m _ _ _ = _
  rw [loR_enc m b.length S (b.drop told) [] _ (by simp only [List.length_append]; omega) h2, h3, List.take_append_drop]
/-- How long a block is. -/
theorem sqz_length (b : List UInt8) (h6 : b.length ≤ 65536) : 1 ≤ (sqz b).length ∧ (sqz b).length ≤ b.length + b.length / 255 + 2 := by
  have h := (SqS.run b.length (SqS.zero b) h6).ok
  have h1 := h.len
  have h2 := h.told
  have h3 := h.fit
  unfold sqz
  simp only [List.length_append, litB_length, List.length_drop]
  omega
end Go.Proofs.Ytcbolakhdndffaa
