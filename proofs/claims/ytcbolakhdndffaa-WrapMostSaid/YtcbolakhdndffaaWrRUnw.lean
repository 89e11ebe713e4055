/- Contract: the document's Unwrap. It proves no statement. -/
import Derived.Test.YtcbolakhdndffaaWrUnw
import Derived.Test.YtcbolakhdndffaaWrRWrap
import Derived.Test.YtcbolakhdndffaaLzRLo
import Derived.Test.YtcbolakhdndffaaSameAny
namespace Go.Proofs.Ytcbolakhdndffaa
open Go.RowKit
set_option linter.unusedVariables false
set_option linter.unusedSimpArgs false

/-- A slice that reads as these bytes. -/
def Seen (w : World) (v : Value) (l : List UInt8) : Prop := ∃ A n c, v = .slice A n c ∧ RowS w w.heap.size A n c l
theorem Seen.nil (w : World) : Seen w (.slice none 0 0) [] := ⟨none, 0, 0, rfl, Reads.nil0, Nat.le_refl _, by omega, fun _ => ⟨rfl, rfl⟩⟩
theorem Seen.still {w w' : World} {v : Value} {l : List UInt8} (h : Seen w v l) (s : Still w w') : Seen w' v l := by
  obtain ⟨A, n, c, rfl, r⟩ := h
  have r2 := r.still (Nat.le_refl _) s
  exact ⟨A, n, c, rfl, r2.reads.more s.size, r2.fit, r2.cap, r2.nil⟩
theorem Seen.of_own {w : World} {base n : Nat} {v : Value} {l : List UInt8} (h : w.ownsRow base 5 1 v n (bytesV l)) : Seen w v l := by
  obtain ⟨A, c, rfl, f1, f2, f3⟩ := own_form h
  exact ⟨A, n, c, rfl, Reads.of_own h, f1, f2, f3⟩
theorem Seen.of_out {w : World} {lo : Nat} {v : Value} {l : List UInt8} (h : Out w lo v l) : Seen w v l := by
  obtain ⟨A, n, c, rfl, r, _, f1, f2, f3⟩ := h
  exact ⟨A, n, c, rfl, r, f1, f2, f3⟩
theorem Seen.of_row {w : World} {B n c : Nat} {A : Option Addr} {l : List UInt8} (h : RowS w B A n c l) (hB : B ≤ w.heap.size) : Seen w (.slice A n c) l := ⟨A, n, c, rfl, h.reads.more hB, h.fit, h.cap, h.nil⟩
set_option maxRecDepth 100000 in
set_option maxHeartbeats 3200000 in
theorem runwrap_any (A : Option Addr) (n c : Nat) (l : List UInt8) (w : World) (B : Nat) (h : RowS w B A n c l) (hB : B ≤ w.heap.size) (hn : n ≤ 1048576) :
    Calls Try.prog 15 #[.slice A n c] w fun e w' => (∃ v, e = .returned (.tuple #[v, .int .i64 (unwR l).2]) ∧ Seen w' v (unwR l).1) ∧ Still w w' := by
  have hl := h.reads.1
  have LK := Lib.hid (rlook_any A n c l w B h hB)
  obtain ⟨U, hU⟩ : ∃ U, U = unwR l := ⟨_, rfl⟩
  rw [← hU]
  obtain ⟨K, hK⟩ : ∃ K, K = (lookR l).1 := ⟨_, rfl⟩
  obtain ⟨M, hM⟩ : ∃ M, M = (lookR l).2.1 := ⟨_, rfl⟩
  obtain ⟨E, hE⟩ : ∃ E, E = (lookR l).2.2 := ⟨_, rfl⟩
  rw [← hK, ← hM, ← hE] at LK
  by_cases hE0 : E = 0
  · obtain ⟨p5, pk, pm, _⟩ := lookR_lay l (by rw [← hE]; exact hE0)
    rw [← hK] at pk
    rw [← hM] at pm
    obtain ⟨A', n', c', hr, hn', hcase⟩ := rest5 h (by omega)
    have hcap := h.cap
    have hfit := h.fit
    have d1 : (5 : Int) ≤ (n : Int) := by omega
    have RS := Lib.hid (fun (W : World) (st : Still w W) => hr.still hB st)
    have HB := Lib.hid hB
    by_cases hk1 : K = 1
    · have HU := Lib.hid (show U = losR (l.drop 5) M by rw [hU, unwR_sq (by rw [← hE]; exact hE0) (by rw [← hK]; exact hk1), ← hM])
      have HAG := Lib.hid (fun (X : List UInt8) (hX : X.length = M) => again_iff l X (by rw [← hE]; exact hE0) (by rw [← hK]; exact hk1) (by rw [← hM]; exact hX))
      have LO := Lib.hid (fun (W : World) (st : Still w W) => rloosen_any A' n' c' (l.drop 5) M W B (RS.out W st).reads (Nat.le_trans HB.out st.size) (by omega) hr.fit hr.cap hr.nil)
      have hXl := looseR_lenW (l.drop 5) M
      have RW := Lib.hid (fun (W : World) (st : Still w W) => h.still hB st)
      have k1 : (looseR (l.drop 5) M).2 = 5 → U = ([], 4) := fun h => by rw [HU.out, losR_big h]
      have k2 : ¬ (looseR (l.drop 5) M).2 = 5 → ¬ (looseR (l.drop 5) M).2 = 0 → U = ([], (looseR (l.drop 5) M).2) := fun h h' => by rw [HU.out, losR_err h h']
      have k3 : (looseR (l.drop 5) M).2 = 0 → U = if (looseR (l.drop 5) M).1.length = M ∧ (sqz (looseR (l.drop 5) M).1).length < (looseR (l.drop 5) M).1.length ∧ sqz (looseR (l.drop 5) M).1 = l.drop 5 then ((looseR (l.drop 5) M).1, 0) else ([], 4) := fun h => by rw [HU.out, losR_ok h]
      obtain ⟨F, hF⟩ : ∃ F, F = (looseR (l.drop 5) M).2 := ⟨_, rfl⟩
      obtain ⟨X, hX⟩ : ∃ X, X = (looseR (l.drop 5) M).1 := ⟨_, rfl⟩
      rw [← hF] at LO k1 k2 k3
      rw [← hX] at LO hXl k3
      have WR := Lib.hid (fun A2 c2 (W : World) B' (r : RowS W B' A2 X.length c2 X) (hB' : B' ≤ W.heap.size) => rwrap_any A2 X.length c2 X false W B' r hB' (by omega))
      rw [wrapR_ok (by omega)] at WR
      have K1 := Lib.hid k1
      have K2 := Lib.hid k2
      have K3 := Lib.hid k3
      have HWL := Lib.hid (show (wrB X false).length ≤ 70000 by have := wrB_length X false; omega)
      subst hE0
      subst hk1
      obtain ⟨L, hL⟩ : ∃ L, L = X.length := ⟨_, rfl⟩
      have HL := Lib.hid hL
      rw [← hL] at LO WR
      have hM16 : M ≤ 16379 := pm
      have key2 : (F = 5 ∧ Hid (U = ([], 4))) ∨ ((F == 5) = false ∧ (F != 0) = true ∧ Hid (U = ([], F))) ∨ (F = 0 ∧ ((L : Int) != (M : Int)) = true ∧ Hid (U = ([], 4))) ∨ (F = 0 ∧ ((L : Int) != (M : Int)) = false ∧ ∃ q, Hid (q = decide (wrB X false = l)) ∧ Hid (U = if q = true then (X, 0) else ([], 4))) := by
        by_cases f5 : F = 5
        · exact .inl ⟨f5, k1 f5⟩
        by_cases f0 : F = 0
        · by_cases q1 : L = M
          · refine .inr (.inr (.inr ⟨f0, by simp [q1], _, rfl, ?_⟩))
            show U = _
            rw [k3 f0]
            have ag := HAG.out X (by omega)
            by_cases q3 : wrB X false = l
            · rw [if_pos ⟨by omega, (ag.1 q3).1, (ag.1 q3).2⟩, if_pos (decide_eq_true q3)]
            · rw [if_neg (fun h => q3 (ag.2 ⟨h.2.1, h.2.2⟩)), if_neg (by simp [q3])]
          · exact .inr (.inr (.inl ⟨f0, by rw [bne_iff_ne]; omega, (by rw [k3 f0, if_neg (fun h => q1 (by omega))] : U = ([], 4))⟩))
        · exact .inr (.inl ⟨by simpa using f5, by simpa using f0, k2 f5 f0⟩)
      clear h hl hU hK hM hE pk hr HU k1 k2 k3 K1 K2 K3 hF hX hL hXl HAG hn'
      rcases hcase with ⟨rfl, rfl, rfl, rfl⟩ | ⟨k1, rfl, rfl, bb, oo, rfl, rfl⟩
      all_goals
        go_enter Try.func15, Try.ntmps15
        go_wp2_with fail
        refine LK.out.mono ?_
        rintro e w1 ⟨rfl, s1⟩
        have S1 := Lib.hid s1
        have L1 := Lib.hid (LO.out w1 s1)
        clear s1 LK LO
        go_wp2_with fail
        refine L1.out.mono ?_
        rintro e w2 ⟨⟨v, rfl, own⟩, s2⟩
        obtain ⟨A2, c2, rfl, f1, f2, f3⟩ := own_form own
        have S2 := Lib.hid (Still.trans S1.out s2)
        have W2 := Lib.hid (WR.out A2 c2 w2 _ ⟨Reads.of_own own, f1, f2, f3⟩ (Nat.le_refl _))
        have SX := Lib.hid (Seen.of_own own)
        clear own s2 L1 f1 f2 f3 WR
        rcases key2 with ⟨rfl, hy⟩ | ⟨q1, q2, hy⟩ | ⟨rfl, q1, hy⟩ | ⟨rfl, q1, q, hq, hy⟩
        · go_wp2_with fail
          go_ret2
          rw [hy.out]
          exact ⟨⟨_, rfl, Seen.nil _⟩, S2.out⟩
        · go_wp2_with fail
          go_ret2
          rw [hy.out]
          exact ⟨⟨_, rfl, Seen.nil _⟩, S2.out⟩
        · go_wp2_with fail
          refine W2.out.mono ?_
          rintro e w3 ⟨⟨v, rfl, own⟩, s3⟩
          obtain ⟨A3, c3, rfl, f1, f2, f3⟩ := own_form own
          have S3 := Lib.hid (Still.trans S2.out s3)
          generalize (wrB X false).length = z at *
          clear own s3 f1 f2 f3 W2
          go_wp2_with fail
          go_ret2
          rw [hy.out]
          exact ⟨⟨_, rfl, Seen.nil _⟩, S3.out⟩
        · go_wp2_with fail
          refine W2.out.mono ?_
          rintro e w3 ⟨⟨v, rfl, own⟩, s3⟩
          obtain ⟨A3, c3, rfl, f1, f2, f3⟩ := own_form own
          have S3 := Lib.hid (Still.trans S2.out s3)
          have SX3 := Lib.hid (SX.out.still s3)
          have EQ := Lib.hid (fun (A9 : Option Addr) (n9 c9 : Nat) (r : RowS w3 B A9 n9 c9 l) (hn9 : n9 ≤ 1048576) => same_any A3 A9 (wrB X false).length n9 c3 c9 (wrB X false) l w3 _ _ (Reads.of_own own) r.reads (by have := HWL.out; omega) (by omega))
          have E2 := Lib.hid (EQ.out _ _ _ (RW.out w3 S3.out) (by omega))
          obtain ⟨z, hz⟩ : ∃ z, z = (wrB X false).length := ⟨_, rfl⟩
          rw [← hz, ← hq.out] at E2
          rw [← hz]
          clear own s3 f1 f2 f3 W2 EQ SX hz hq
          cases q
          · have HY := Lib.hid (show U = ([], 4) by rw [hy.out]; rfl)
            clear hy
            go_wp2_with fail
            refine E2.out.mono ?_
            rintro e w4 ⟨rfl, s4⟩
            have S4 := Lib.hid (Still.trans S3.out s4)
            clear s4 E2
            go_wp2_with fail
            go_ret2
            rw [HY.out]
            exact ⟨⟨_, rfl, Seen.nil _⟩, S4.out⟩
          · have HY := Lib.hid (show U = (X, 0) by rw [hy.out]; rfl)
            clear hy
            go_wp2_with fail
            refine E2.out.mono ?_
            rintro e w4 ⟨rfl, s4⟩
            have S4 := Lib.hid (Still.trans S3.out s4)
            have SX4 := Lib.hid (SX3.out.still s4)
            clear s4 E2
            go_wp2_with fail
            go_ret2
            rw [HY.out]
            exact ⟨⟨_, rfl, SX4.out⟩, S4.out⟩
    · have HU := Lib.hid (show U = takR (l.drop 5) M by rw [hU, unwR_st (by rw [← hE]; exact hE0) (by rw [← hK]; exact hk1), ← hM])
      have HLN := Lib.hid hr.reads.1
      subst hE0
      obtain rfl : K = 0 := by omega
      rw [show (((0 : Nat) : Int)) = 0 from rfl] at LK
      have key : ((n' : Int) < (M : Int) ∧ Hid (U = ([], 3))) ∨ (¬ (n' : Int) < (M : Int) ∧ (M : Int) < (n' : Int) ∧ Hid (U = ([], 6))) ∨ (¬ (n' : Int) < (M : Int) ∧ ¬ (M : Int) < (n' : Int) ∧ Hid (U = (l.drop 5, 0))) := by
        have := HLN.out
        by_cases q1 : n' < M
        · exact .inl ⟨by omega, (by rw [HU.out, takR_short (by omega)] : U = ([], 3))⟩
        · by_cases q2 : M < n'
          · exact .inr (.inl ⟨by omega, by omega, (by rw [HU.out, takR_rest (by omega)] : U = ([], 6))⟩)
          · exact .inr (.inr ⟨by omega, by omega, (by rw [HU.out, takR_all (by omega)] : U = (l.drop 5, 0))⟩)
      clear h hl hU hK hM hE pk hr hk1 hn'
      rcases hcase with ⟨rfl, rfl, rfl, rfl⟩ | ⟨k1, hn1, hc1, bb, oo, rfl, rfl⟩
      · have hn5 : n = 5 := by omega
        subst hn5
        rcases key with ⟨q1, hy⟩ | ⟨q1, q2, hy⟩ | ⟨q1, q2, hy⟩
        rotate_left
        · exfalso; omega
        all_goals
          go_enter Try.func15, Try.ntmps15
          go_wp2_with fail
          refine LK.out.mono ?_
          rintro e w1 ⟨rfl, s1⟩
          have S1 := Lib.hid s1
          have SE := Lib.hid (Seen.of_row (RS.out w1 s1) (Nat.le_trans HB.out s1.size))
          clear s1 LK
          go_wp2_with fail
          go_ret2
          rw [hy.out]
          first
            | exact ⟨⟨_, rfl, SE.out⟩, S1.out⟩
            | exact ⟨⟨_, rfl, Seen.nil _⟩, S1.out⟩
      · subst hc1
        subst hn1
        have i1 : ((n - 5 : Nat) : Int) = (n : Int) - 5 := by omega
        rcases key with ⟨q1, hy⟩ | ⟨q1, q2, hy⟩ | ⟨q1, q2, hy⟩
        all_goals
          go_enter Try.func15, Try.ntmps15
          go_wp2_with fail
          refine LK.out.mono ?_
          rintro e w1 ⟨rfl, s1⟩
          have S1 := Lib.hid s1
          have SE := Lib.hid (Seen.of_row (RS.out w1 s1) (Nat.le_trans HB.out s1.size))
          clear s1 LK
          go_wp2_with fail
          go_ret2
          rw [hy.out]
          first
            | exact ⟨⟨_, rfl, SE.out⟩, S1.out⟩
            | exact ⟨⟨_, rfl, Seen.nil _⟩, S1.out⟩
  · have HU := Lib.hid (show U = ([], E) by rw [hU, unwR_err (by rw [← hE]; exact hE0), ← hE])
    have b0 : (E != 0) = true := by simpa using hE0
    clear h hl hU hK hM hE hB hn hE0
    go_enter Try.func15, Try.ntmps15
    go_wp2_with fail
    refine LK.out.mono ?_
    rintro e w1 ⟨rfl, s1⟩
    have S1 := Lib.hid s1
    clear s1 LK
    go_wp2_with fail
    go_ret2
    rw [HU.out]
    exact ⟨⟨_, rfl, Seen.nil _⟩, S1.out⟩
end Go.Proofs.Ytcbolakhdndffaa
