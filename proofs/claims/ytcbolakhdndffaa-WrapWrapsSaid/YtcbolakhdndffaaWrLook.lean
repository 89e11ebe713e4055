/- Contracts: the program's Look, the document's Look. It proves no statement. -/
import Derived.Test.YtcbolakhdndffaaWrMath
import Derived.Test.YtcbolakhdndffaaRowS
import Derived.Test.YtcbolakhdndffaaRead
import Derived.Test.YtcbolakhdndffaaFar
import Derived.Test.YtcbolakhdndffaaLe
namespace Go.Proofs.Ytcbolakhdndffaa
open Go.RowKit
set_option linter.unusedVariables false
set_option linter.unusedSimpArgs false

theorem lookR_short {l : List UInt8} (h : l.length < 5) : lookR l = (0, 0, 3) := by unfold lookR; rw [if_pos h]
theorem lookR_form {l : List UInt8} (h : ¬ l.length < 5) (h2 : 1 < leNum (l.take 1) ∨ 16379 < leNum ((l.drop 1).take 4)) : lookR l = (0, 0, 4) := by unfold lookR; rw [if_neg h, if_pos h2]
theorem lookR_yes {l : List UInt8} (h : ¬ l.length < 5) (h2 : ¬ (1 < leNum (l.take 1) ∨ 16379 < leNum ((l.drop 1).take 4))) : lookR l = (leNum (l.take 1), leNum ((l.drop 1).take 4), 0) := by unfold lookR; rw [if_neg h, if_neg h2]
/-- What two readings of a row's front do. -/
theorem two_reads (l : List UInt8) : ∃ (l1 l2 : List UInt8) (x1 x2 : Int) (p1 p2 : List UInt8), rstep (l.take 5) 0 1 true = ((l1, x1), p1) ∧ rstep l1 x1 4 true = ((l2, x2), p2) ∧
    ((l.length < 5 ∧ x2 = 3) ∨ (¬ l.length < 5 ∧ x2 = 0 ∧ p1 = l.take 1 ∧ p2 = (l.drop 1).take 4)) := by
  by_cases h5 : l.length < 5
  · rw [List.take_of_length_le (by omega)]
    by_cases h0 : l.length < 1
    · refine ⟨_, _, _, _, _, _, rstep_short l 1 true (by simp) (by omega), rstep_err _ _ _ _ (by decide), .inl ⟨h5, rfl⟩⟩
    · refine ⟨_, _, _, _, _, _, rstep_ok l 1 true (by simp) (by omega), rstep_short _ 4 true (by simp) (by rw [List.length_drop]; omega), .inl ⟨h5, rfl⟩⟩
  · have e1 := rstep_ok (l.take 5) 1 true (by simp) (by rw [List.length_take]; omega)
    have e2 := rstep_ok ((l.take 5).drop 1) 4 true (by simp) (by rw [List.length_drop, List.length_take]; omega)
    refine ⟨_, _, _, _, _, _, e1, e2, .inr ⟨h5, rfl, ?_, ?_⟩⟩
    · rw [List.take_take]; rfl
    · rw [List.drop_take, List.take_take]; rfl
theorem err_liveAny {w : World} {lo B g : Nat} {l : List UInt8} {x : Int} (h : LiveAny w lo B g l x) :
    Calls Try.prog 28 #[.pointer (some ⟨g, 0, none⟩)] w fun e w' => e = .returned (.int .i64 x) ∧ w = w' := by
  obtain ⟨A, n, c, h⟩ := h
  exact err_live h
set_option maxRecDepth 100000 in
set_option maxHeartbeats 1600000 in
theorem look_any (A : Option Addr) (n c : Nat) (l : List UInt8) (w : World) (B : Nat) (h : RowS w B A n c l) (hB : B ≤ w.heap.size) :
    Calls Try.prog 16 #[.slice A n c] w fun e w' => e = .returned (.tuple #[.int .i64 ((lookR l).1 : Nat), .int .i64 ((lookR l).2.1 : Nat), .int .i64 (lookR l).2.2]) ∧ Still w w' := by
  have hl := h.reads.1
  obtain ⟨m, hm⟩ : ∃ m, m = min n 5 := ⟨_, rfl⟩
  have OP := Lib.hid (open_any A m c (l.take 5) w B (by rw [hm]; exact h.reads.take 5) hB (by omega) (fun e => by have := h.nil e; omega))
  obtain ⟨l1, l2, x1, x2, p1, p2, st1, st2, hcase⟩ := two_reads l
  have N1 := Lib.hid (fun (W : World) (lo B g : Nat) (lv : LiveAny W lo B g (l.take 5) 0) => num_any lv 1)
  have N2 := Lib.hid (fun (W : World) (lo B g : Nat) (lv : LiveAny W lo B g l1 x1) => num_any lv 4)
  rw [st1] at N1
  rw [st2] at N2
  have hfc := h.fit
  have hcm := h.cap
  have HL := Lib.hid hl
  have HC := Lib.hid hcase
  have key : (n ≤ 5 ∧ m = n) ∨ (5 < n ∧ m = 5) := by omega
  obtain ⟨X, hX⟩ : ∃ X, X = lookR l := ⟨_, rfl⟩
  have HX := Lib.hid hX
  rw [← hX]
  clear h hB hl hm st1 st2 hcase hX
  rcases key with ⟨k1, rfl⟩ | ⟨k1, rfl⟩
  all_goals
    go_enter Try.func16, Try.ntmps16
    go_wp2_with fail
    refine OP.out.mono ?_
    rintro e w1 ⟨⟨g, A1, c1, rfl, lv1⟩, s1⟩
    have G1 := Lib.hid lv1.low
    have NN := Lib.hid (N1.out w1 _ _ g ⟨_, _, _, lv1⟩)
    have S1 := Lib.hid s1
    clear lv1 s1 OP
    go_wp2_with fail
    refine NN.out.mono ?_
    rintro e w2 ⟨rfl, lv2, gr2⟩
    have S2 := Lib.hid (still_grown S1.out gr2 G1.out)
    have NN2 := Lib.hid (N2.out w2 _ _ g lv2)
    obtain ⟨y1, hy1⟩ : ∃ y, y = leNum p1 := ⟨_, rfl⟩
    rw [← hy1]
    have HY1 := Lib.hid hy1.symm
    clear hy1
    clear lv2 gr2 NN
    go_wp2_with fail
    refine NN2.out.mono ?_
    rintro e w3 ⟨rfl, lv3, gr3⟩
    have S3 := Lib.hid (still_grown S2.out gr3 G1.out)
    have ER := Lib.hid (err_liveAny lv3)
    obtain ⟨y2, hy2⟩ : ∃ y, y = leNum p2 := ⟨_, rfl⟩
    rw [← hy2]
    have HY2 := Lib.hid hy2.symm
    clear hy2
    clear lv3 gr3 NN2
    go_wp2_with fail
    refine ER.out.mono ?_
    rintro e w4 ⟨rfl, rfl⟩
    clear ER
    rcases HC.out with ⟨q5, q1⟩ | ⟨q5, q1, q2, q3⟩
    · have HXX := Lib.hid (show X = (0, 0, 3) by rw [HX.out, lookR_short q5])
      subst q1
      clear q5 HC
      go_wp2_with fail
      go_ret3
      rw [HXX.out]
      exact ⟨rfl, S3.out⟩
    · subst q1
      have b1 : y1 < 256 := by
        have h := leNum_lt (l.take 1)
        rw [← q2, HY1.out] at h
        rw [q2, List.length_take] at h
        have : 2 ^ (8 * min 1 l.length) ≤ 2 ^ 8 := Nat.pow_le_pow_right (by omega) (by omega)
        omega
      by_cases t1 : 1 < y1
      · have HXX := Lib.hid (show X = (0, 0, 4) by rw [HX.out, lookR_form q5 (.inl (by rw [← q2, HY1.out]; exact t1))])
        clear q5 HC q2 q3
        go_wp2_with fail
        go_ret3
        rw [HXX.out]
        exact ⟨rfl, S3.out⟩
      · by_cases t2 : 16379 < y2
        · have HXX := Lib.hid (show X = (0, 0, 4) by rw [HX.out, lookR_form q5 (.inr (by rw [← q3, HY2.out]; exact t2))])
          clear q5 HC q2 q3
          go_wp2_with fail
          go_ret3
          rw [HXX.out]
          exact ⟨rfl, S3.out⟩
        · have HXX := Lib.hid (show X = (y1, y2, 0) by rw [HX.out, lookR_yes q5 (by rw [← q2, ← q3, HY1.out, HY2.out]; omega), ← q2, ← q3, HY1.out, HY2.out])
          clear q5 HC q2 q3
          go_wp2_with fail
          go_ret3
          rw [HXX.out]
          exact ⟨rfl, S3.out⟩

theorem leNum_take1 (l : List UInt8) (h : 0 < l.length) : leNum (l.take 1) = (l.getD 0 0).toNat := by
  cases l with
  | nil => simp at h
  | cons a t => simp [leNum]
set_option maxRecDepth 100000 in
set_option maxHeartbeats 1600000 in
theorem rlook_any (A : Option Addr) (n c : Nat) (l : List UInt8) (w : World) (B : Nat) (h : RowS w B A n c l) (hB : B ≤ w.heap.size) :
    Calls Try.prog 17 #[.slice A n c] w fun e w' => e = .returned (.tuple #[.int .i64 ((lookR l).1 : Nat), .int .i64 ((lookR l).2.1 : Nat), .int .i64 (lookR l).2.2]) ∧ Still w w' := by
  have hl := h.reads.1
  by_cases h5 : n < 5
  · rw [lookR_short (by omega)]
    have d1 : (n : Int) < 5 := by omega
    clear h hl
    go_enter Try.func17, Try.ntmps17
    go_wp2_with fail
    go_ret3
    exact ⟨rfl, Still.refl _⟩
  · have d1 : ¬ (n : Int) < 5 := by omega
    obtain ⟨b, o, rfl, hb, hc⟩ := h.reads.at_ (by omega)
    have q0 := hc 0 (by omega)
    rw [← leNum_take1 l (by omega), Nat.add_zero] at q0
    have r4 : Reads w B (some ⟨b, o + 1, none⟩) 4 ((l.drop 1).take 4) := by
      have := (h.reads.dropk (k := 1) (by omega)).takek (k := 4) (by omega)
      simpa [Addr.add_lit] using this
    have GE := Lib.hid (fun c' => rget_yes (some ⟨b, o + 1, none⟩) 4 c' ((l.drop 1).take 4) w B r4 (by omega) (by omega))
    have hfc := h.fit
    have hcm := h.cap
    obtain ⟨X, hX⟩ : ∃ X, X = lookR l := ⟨_, rfl⟩
    rw [← hX]
    obtain ⟨y1, hy1⟩ : ∃ y, y = leNum (l.take 1) := ⟨_, rfl⟩
    obtain ⟨y2, hy2⟩ : ∃ y, y = leNum ((l.drop 1).take 4) := ⟨_, rfl⟩
    have hq : ¬ l.length < 5 := by omega
    have b1 : y1 < 256 := by
      rw [hy1, leNum_take1 l (by omega)]
      exact (l.getD 0 0).toNat_lt
    rw [← hy1] at q0
    rw [← hy2] at GE
    have HX := Lib.hid hX
    have HY := Lib.hid (And.intro hy1 hy2)
    have HQ := Lib.hid hq
    have hn1 : (1 : Int) ≤ (n : Int) := by omega
    have hn2 : (5 : Int) ≤ (c : Int) := by omega
    have hn0 : (0 : Int) < (n : Int) := by omega
    clear h hl hc hX hy1 hy2 r4 hq hb h5
    by_cases t1 : 1 < y1
    · have HXX := Lib.hid (show X = (0, 0, 4) by rw [HX.out, lookR_form HQ.out (.inl (by rw [← HY.out.1]; exact t1))])
      go_enter Try.func17, Try.ntmps17
      go_wp2_with fail
      refine (GE.out _).mono ?_
      rintro e w1 ⟨rfl, rfl⟩
      go_wp2_with fail
      go_ret3
      rw [HXX.out]
      exact ⟨rfl, Still.refl _⟩
    · by_cases t2 : 16379 < y2
      · have HXX := Lib.hid (show X = (0, 0, 4) by rw [HX.out, lookR_form HQ.out (.inr (by rw [← HY.out.2]; exact t2))])
        go_enter Try.func17, Try.ntmps17
        go_wp2_with fail
        refine (GE.out _).mono ?_
        rintro e w1 ⟨rfl, rfl⟩
        go_wp2_with fail
        go_ret3
        rw [HXX.out]
        exact ⟨rfl, Still.refl _⟩
      · have HXX := Lib.hid (show X = (y1, y2, 0) by rw [HX.out, lookR_yes HQ.out (by rw [← HY.out.1, ← HY.out.2]; omega), ← HY.out.1, ← HY.out.2])
        go_enter Try.func17, Try.ntmps17
        go_wp2_with fail
        refine (GE.out _).mono ?_
        rintro e w1 ⟨rfl, rfl⟩
        go_wp2_with fail
        go_ret3
        rw [HXX.out]
        exact ⟨rfl, Still.refl _⟩
end Go.Proofs.Ytcbolakhdndffaa
