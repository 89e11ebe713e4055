/- Mathematics: so many times one byte make a short block; what a beginning of a block tells. It proves no statement. -/
import Derived.Test.YtlajdfjiehlboaaLzSqM
namespace Go.Proofs.Ytlajdfjiehlboaa
set_option linter.unusedVariables false

theorem rep_take (n k : Nat) (c : UInt8) (h : k ≤ n) : (List.replicate n c).take k = List.replicate k c := by rw [List.take_replicate, Nat.min_eq_left h]
theorem alk_rep (n m : Nat) (c : UInt8) : alk (List.replicate n c) (List.replicate m c) = min n m := by
  induction n generalizing m with
  | zero => simp [alk_nil]
  | succ n ih =>
    cases m with
    | zero => simp [alk_nil2]
    | succ m =>
      rw [List.replicate_succ, List.replicate_succ, alk, if_pos rfl, ih]
      omega
theorem sqz_runs (n : Nat) (c : UInt8) (h : n ≤ 65536) : (sqz (List.replicate n c)).length ≤ n / 255 + 13 := by
  by_cases h0 : n ≤ 12
  · have := sqz_length (List.replicate n c) (by simpa using h)
    by_cases h1 : n < 12
    · have e : sqz (List.replicate n c) = litB (List.replicate n c) 0 := by
        unfold sqz
        rw [sqRun_end (s := sq0) _ (by simp [sq0]; omega)]
        rfl
      rw [e, litB_length]
      simp
      omega
    · obtain rfl : n = 12 := by omega
      have hm : ¬ (sq0).hit (List.replicate 12 c) := fun hh => hh.1 rfl
      have e : sqz (List.replicate 12 c) = litB (List.replicate 12 c) 0 := by
        unfold sqz
        have : (List.replicate 12 c).length = 11 + 1 := rfl
        rw [this, sqRun_step (s := sq0) 11 (by simp [sq0]), step_miss hm, sqRun_end (s := sq0.miss _) _ (by simp [sq0, Sq.miss])]
        rfl
      rw [e, litB_length]
      simp
  · obtain ⟨m, rfl⟩ : ∃ m, n = m + 2 := ⟨n - 2, by omega⟩
    obtain ⟨b, hb⟩ : ∃ b, b = List.replicate (m + 2) c := ⟨_, rfl⟩
    have hbl : b.length = m + 2 := by rw [hb]; simp
    have hm : ¬ (sq0).hit b := fun hh => hh.1 rfl
    have d0 : (b.drop 0).take 4 = List.replicate 4 c := by rw [hb, List.drop_zero, rep_take _ _ _ (by omega)]
    have d1 : (b.drop 1).take 4 = List.replicate 4 c := by rw [hb, List.drop_replicate, rep_take _ _ _ (by omega)]
    obtain ⟨s1, hs1⟩ : ∃ s1, s1 = sq0.miss b := ⟨_, rfl⟩
    have hi : s1.i = 1 := by rw [hs1]; rfl
    have ht : s1.told = 0 := by rw [hs1]; rfl
    have ho : s1.out = [] := by rw [hs1]; rfl
    have htab : s1.tab (hsh (List.replicate 4 c)) = 1 := by
      rw [hs1]
      show sq0.tab' b _ = 1
      unfold Sq.tab'
      show (if _ = hsh ((b.drop 0).take 4) then 0 + 1 else _) = 1
      rw [d0, if_pos rfl]
    have hc1 : s1.c1 b = 1 := by unfold Sq.c1; rw [hi, d1]; exact htab
    have hhit : s1.hit b := ⟨by rw [hc1]; decide, by rw [hc1, hi, d1]; exact d0⟩
    have hk : s1.k b = m - 4 := by
      unfold Sq.k
      rw [hc1, hi, hbl]
      show alk (b.drop 0) ((b.take (m + 2 - 5)).drop 1) = m - 4
      rw [hb, List.drop_zero, rep_take _ _ _ (by omega), List.drop_replicate, alk_rep]
      omega
    have hg : (s1.got b).i = m - 3 ∧ (s1.got b).told = m - 3 ∧ (s1.got b).out = seqB [c] 1 (m - 4) := by
      unfold Sq.got
      rw [hk, hi, ht, ho, hc1]
      refine ⟨by simp only; omega, by simp only; omega, ?_⟩
      simp only [List.nil_append, List.drop_zero]
      rw [hb, rep_take _ _ _ (by omega)]
      rfl
    have e : sqz b = seqB [c] 1 (m - 4) ++ litB (b.drop (m - 3)) 0 := by
      unfold sqz
      rw [hbl, sqRun_step (s := sq0) _ (by rw [hbl]; simp [sq0]; omega), step_miss hm, ← hs1, sqRun_step (s := s1) _ (by rw [hbl, hi]; omega), step_got hhit, sqRun_end (s := s1.got b) _ (by rw [hbl, hg.1]; omega), hg.2.1, hg.2.2]
    rw [← hb, e]
    simp only [List.length_append, seqB_length, litB_length, List.length_drop, hbl, List.length_cons, List.length_nil]
    omega

/-- A number and literals that are cut. -/
theorem numR_pre (n j : Nat) (X : List UInt8) : numR (min n 15) ((extL n ++ X).take j) = if j < (extL n).length then none else some (n, X.take (j - (extL n).length)) := by
  by_cases h : j < (extL n).length
  · rw [if_pos h, List.take_append_of_le_length (by omega), numR_cut n j h]
  · rw [if_neg h, List.take_append, List.take_of_length_le (by omega), numR_ext]
theorem take_cons' (a : UInt8) (l : List UInt8) (m : Nat) : (a :: l).take (m + 1) = a :: l.take m := rfl
/-- A beginning of a block tells nothing, or a beginning of the text. -/
theorem loR_cut (most n : Nat) (S : List (List UInt8 × Nat × Nat)) (z t : List UInt8) (f m : Nat) (hf : m < f) (hg : Good n t S) (hm : m < (encS S ++ litB z 0).length) (hmost : (decS t S ++ z).length ≤ most) :
    loR most f ((encS S ++ litB z 0).take m) t = ([], 3) ∨ ∃ q, loR most f ((encS S ++ litB z 0).take m) t = (q, 0) ∧ q <+: (decS t S ++ z) := by
  induction S generalizing t f m with
  | nil =>
    obtain ⟨f, rfl⟩ : ∃ f', f = f' + 1 := ⟨f - 1, by omega⟩
    left
    have e : encS [] ++ litB z 0 = litB z 0 := rfl
    rw [e] at hm ⊢
    rw [loR]
    cases m with
    | zero => rfl
    | succ m =>
      unfold litB at hm ⊢
      rw [take_cons']
      have hc : (litS most (min z.length 15) ((extL z.length ++ z).take m) t).1 = 3 := by
        unfold litS
        rw [numR_pre]
        by_cases h : m < (extL z.length).length
        · rw [if_pos h]
        · rw [if_neg h]
          simp only
          rw [if_pos]
          simp only [List.length_take]
          simp only [List.length_cons, List.length_append] at hm
          omega
      unfold seqS
      simp only
      rw [tok_div, hc]
      simp
  | cons s S ih =>
    obtain ⟨f, rfl⟩ : ∃ f', f = f' + 1 := ⟨f - 1, by omega⟩
    obtain ⟨⟨g1, g2, g3, g4, g5⟩, hg2⟩ := hg
    obtain ⟨l, d, k⟩ := s
    simp only at g1 g2 g3 g4 g5 hg2
    have hl : (decS (backL d k (t ++ l)) S).length ≥ (t ++ l).length + k := by
      have := decS_len (backL d k (t ++ l)) S
      rw [backL_length] at this
      exact this
    have hmost' : (decS (backL d k (t ++ l)) S ++ z).length ≤ most := hmost
    have hle : ¬ most < (t ++ l).length + k := by rw [List.length_append] at hmost'; omega
    have hpre : t ++ l <+: decS (backL d k (t ++ l)) S ++ z := (backL_prefix d k _).trans ((decS_prefix _ S).trans (List.prefix_append _ _))
    rw [encS_cons, List.append_assoc] at hm ⊢
    simp only at hm ⊢
    by_cases hwhole : (seqB l d k).length ≤ m
    · have e : (seqB l d k ++ (encS S ++ litB z 0)).take m = seqB l d k ++ (encS S ++ litB z 0).take (m - (seqB l d k).length) := by
        rw [List.take_append, List.take_of_length_le hwhole]
      rw [e, loR, (seqS_seq most l d k _ t g1 g2 g3 g4).2 hle]
      simp only [ne_eq, not_true_eq_false, if_false, Bool.false_eq_true]
      have hlen : 1 ≤ (seqB l d k).length := by rw [seqB_length]; omega
      exact ih _ f _ (by omega) hg2 (by simp only [List.length_append] at hm ⊢; omega) hmost'
    · rw [seqB_form] at hm ⊢
      have hsl : (seqB l d k).length = 1 + (extL l.length).length + l.length + 2 + (extL (k - 4)).length := by rw [seqB_length, extL_length, extL_length]; omega
      cases m with
      | zero => exact .inl rfl
      | succ m =>
        rw [take_cons', loR]
        unfold seqS
        simp only
        rw [tok_div, tok_mod]
        by_cases h1 : m < (extL l.length).length
        · left
          have hc : (litS most (min l.length 15) ((extL l.length ++ (l ++ (UInt8.ofNat d :: UInt8.ofNat (d / 256) :: (extL (k - 4) ++ (encS S ++ litB z 0))))).take m) t).1 = 3 := by
            unfold litS
            rw [numR_pre, if_pos h1]
          rw [hc]
          simp
        · obtain ⟨m1, hm1⟩ : ∃ m1, m = (extL l.length).length + m1 := ⟨m - (extL l.length).length, by omega⟩
          have hX : numR (min l.length 15) ((extL l.length ++ (l ++ (UInt8.ofNat d :: UInt8.ofNat (d / 256) :: (extL (k - 4) ++ (encS S ++ litB z 0))))).take m) = some (l.length, (l ++ (UInt8.ofNat d :: UInt8.ofNat (d / 256) :: (extL (k - 4) ++ (encS S ++ litB z 0)))).take m1) := by
            rw [numR_pre, if_neg h1, hm1, Nat.add_sub_cancel_left]
          by_cases h2 : m1 < l.length
          · left
            have hc : (litS most (min l.length 15) ((extL l.length ++ (l ++ (UInt8.ofNat d :: UInt8.ofNat (d / 256) :: (extL (k - 4) ++ (encS S ++ litB z 0))))).take m) t).1 = 3 := by
              unfold litS
              rw [hX]
              simp only
              rw [if_pos]
              simp only [List.length_take]
              omega
            rw [hc]
            simp
          · obtain ⟨m2, hm2⟩ : ∃ m2, m1 = l.length + m2 := ⟨m1 - l.length, by omega⟩
            have hY : (l ++ (UInt8.ofNat d :: UInt8.ofNat (d / 256) :: (extL (k - 4) ++ (encS S ++ litB z 0)))).take m1 = l ++ (UInt8.ofNat d :: UInt8.ofNat (d / 256) :: (extL (k - 4) ++ (encS S ++ litB z 0))).take m2 := by
              rw [List.take_append, List.take_of_length_le (by omega), hm2, Nat.add_sub_cancel_left]
            obtain ⟨W, hW⟩ : ∃ W, W = (UInt8.ofNat d :: UInt8.ofNat (d / 256) :: (extL (k - 4) ++ (encS S ++ litB z 0))).take m2 := ⟨_, rfl⟩
            have hc : litS most (min l.length 15) ((extL l.length ++ (l ++ (UInt8.ofNat d :: UInt8.ofNat (d / 256) :: (extL (k - 4) ++ (encS S ++ litB z 0))))).take m) t = (0, W, t ++ l) := by
              unfold litS
              rw [hX, hY, ← hW]
              simp only
              rw [if_neg (by simp), if_neg (by rw [List.length_append] at hle; omega)]
              simp
            rw [hc]
            simp only [ne_eq, not_true_eq_false, if_false]
            match m2, hW with
            | 0, hW =>
              right
              have : W = [] := hW
              rw [if_pos this]
              exact ⟨t ++ l, rfl, hpre⟩
            | 1, hW =>
              left
              have hw : W = [UInt8.ofNat d] := hW
              have : (backS most (min (k - 4) 15) W (t ++ l)).1 = 3 := by unfold backS; rw [hw]; rfl
              have hne : ¬ W = [] := by rw [hw]; simp
              rw [if_neg hne, this]
              simp
            | m3 + 2, hW =>
              left
              have hw : W = UInt8.ofNat d :: UInt8.ofNat (d / 256) :: (extL (k - 4) ++ (encS S ++ litB z 0)).take m3 := hW
              have : (backS most (min (k - 4) 15) W (t ++ l)).1 = 3 := by
                unfold backS
                rw [hw, if_neg (by simp), dist_num d g3, if_neg (by omega)]
                have e : (UInt8.ofNat d :: UInt8.ofNat (d / 256) :: (extL (k - 4) ++ (encS S ++ litB z 0)).take m3).drop 2 = (extL (k - 4) ++ (encS S ++ litB z 0)).take m3 := rfl
                rw [e, numR_pre, if_pos (by omega)]
                rfl
              have hne : ¬ W = [] := by rw [hw]; simp
              rw [if_neg hne, this]
              simp
/-- A beginning of what was squeezed. -/
theorem loose_cut (b : List UInt8) (h6 : b.length ≤ 65536) (m : Nat) (hm : m < (sqz b).length) : looseR ((sqz b).take m) 65536 = ([], 3) ∨ ∃ q, looseR ((sqz b).take m) 65536 = (q, 0) ∧ q <+: b := by
  obtain ⟨S, told, h1, h2, h3, h4, _⟩ := sqz_form b h6
  unfold looseR
  rw [if_neg (by omega)]
  rw [h1] at hm ⊢
  have hb : decS [] S ++ b.drop told = b := by rw [h3, List.take_append_drop]
  have := loR_cut 65536 b.length S (b.drop told) [] (((encS S ++ litB (b.drop told) 0).take m).length + 1) m (by simp only [List.length_take]; omega) h2 hm (by rw [hb]; exact h6)
  rw [hb] at this
  exact this
end Go.Proofs.Ytlajdfjiehlboaa
