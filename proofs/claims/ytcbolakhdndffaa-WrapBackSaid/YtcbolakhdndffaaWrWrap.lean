/- Contract: the program's Wrap. It proves no statement. -/
import Derived.Test.YtcbolakhdndffaaWrLay
import Derived.Test.YtcbolakhdndffaaLzLoose
namespace Go.Proofs.Ytcbolakhdndffaa
open Go.RowKit
set_option linter.unusedVariables false
set_option linter.unusedSimpArgs false

theorem wrapR_big {b : List UInt8} {s : Bool} (h : 16379 < b.length) : wrapR b s = ([], 5) := by unfold wrapR; rw [if_pos h]
theorem wrapR_ok {b : List UInt8} {s : Bool} (h : b.length ≤ 16379) : wrapR b s = (wrB b s, 0) := by unfold wrapR; rw [if_neg (by omega)]
theorem wrB_st (b : List UInt8) : wrB b true = layB 0 b.length b := by simp [wrB, wrkB]
theorem wrB_sq {b : List UInt8} (h : (sqz b).length < b.length) : wrB b false = layB 1 b.length (sqz b) := by simp [wrB, wrkB, h]
theorem wrB_pl {b : List UInt8} (h : ¬ (sqz b).length < b.length) : wrB b false = layB 0 b.length b := by simp [wrB, wrkB, h]
set_option maxRecDepth 100000 in
set_option maxHeartbeats 1600000 in
theorem wwrap_any (A : Option Addr) (n c : Nat) (b : List UInt8) (s : Bool) (w : World) (B : Nat) (h : RowS w B A n c b) (hB : B ≤ w.heap.size) (hn : n ≤ 1048576) :
    Calls Try.prog 10 #[.slice A n c, .bool s] w fun e w' => (∃ v, e = .returned (.tuple #[v, .int .i64 (wrapR b s).2]) ∧ w'.ownsRow w.heap.size 5 1 v (wrapR b s).1.length (bytesV (wrapR b s).1)) ∧ Still w w' := by
  have hl := h.reads.1
  by_cases hbig : 16379 < n
  · rw [wrapR_big (by omega)]
    have d1 : 16379 < (n : Int) := by omega
    clear h hl
    go_enter Try.func10, Try.ntmps10
    go_wp2_with fail
    go_ret2
    exact ⟨⟨_, rfl, World.ownsRow_nil _ _ _ _⟩, Still.refl _⟩
  · rw [wrapR_ok (by omega)]
    have d1 : ¬ 16379 < (n : Int) := by omega
    have LA := Lib.hid (fun (W : World) (st : Still w W) => wlay_any 0 n A n c b W B (h.still hB st).reads (Nat.le_trans hB st.size) (fun e => (h.nil e).2) (by omega) (by omega) (by omega))
    rw [show (((0 : Nat) : Int)) = 0 from rfl] at LA
    cases s
    · have SH := Lib.hid (shorter_any A n c b w B h hB (by omega))
      by_cases hs : (sqz b).length < b.length
      · obtain ⟨R, hR⟩ : ∃ R, R = wrB b false := ⟨_, rfl⟩
        have HR := Lib.hid (show R = layB 1 n (sqz b) by rw [hR, wrB_sq hs, hl])
        rw [← hR]
        rw [decide_eq_true hs, show shB b = sqz b by unfold shB; rw [if_pos hs]] at SH
        have HZL := Lib.hid (show (sqz b).length ≤ 65536 by omega)
        generalize sqz b = Z at *
        clear h hl hbig hR LA hs
        go_enter Try.func10, Try.ntmps10
        go_wp2_with fail
        refine SH.out.mono ?_
        rintro e w1 ⟨⟨v, rfl, own⟩, s1⟩
        obtain ⟨A1, c1, rfl, f1, f2, f3⟩ := own_form own
        have LZ := Lib.hid (wlay_any 1 n A1 Z.length c1 Z w1 _ (Reads.of_own own) (Nat.le_refl _) (fun e => (f3 e).2) (by omega) (by omega) (by have := HZL.out; omega))
        rw [show (((1 : Nat) : Int)) = 1 from rfl] at LZ
        have S1 := Lib.hid s1
        obtain ⟨L, hL⟩ : ∃ L, L = Z.length := ⟨_, rfl⟩
        rw [← hL] at LZ ⊢
        clear own s1 SH f1 f2 f3 hL
        go_wp2_with fail
        refine LZ.out.mono ?_
        rintro e w2 ⟨⟨v, rfl, own⟩, s2⟩
        obtain ⟨A2, c2, rfl, f1, f2, f3⟩ := own_form own
        rw [← HR.out] at own ⊢
        have OW := Lib.hid (own_lower own S1.out.size)
        have S2 := Lib.hid (Still.trans S1.out s2)
        clear own s2 LZ f1 f2 f3
        go_wp2_with fail
        go_ret2
        exact ⟨⟨_, rfl, OW.out⟩, S2.out⟩
      · obtain ⟨R, hR⟩ : ∃ R, R = wrB b false := ⟨_, rfl⟩
        have HR := Lib.hid (show R = layB 0 n b by rw [hR, wrB_pl hs, hl])
        rw [← hR]
        rw [decide_eq_false hs, show shB b = [] by unfold shB; rw [if_neg hs]] at SH
        clear h hl hbig hR hs
        go_enter Try.func10, Try.ntmps10
        go_wp2_with fail
        refine SH.out.mono ?_
        rintro e w1 ⟨⟨v, rfl, own⟩, s1⟩
        obtain ⟨A1, c1, rfl, f1, f2, f3⟩ := own_form own
        have S1 := Lib.hid s1
        have LZ := Lib.hid (LA.out w1 s1)
        clear own s1 SH f1 f2 f3 LA
        go_wp2_with fail
        refine LZ.out.mono ?_
        rintro e w2 ⟨⟨v, rfl, own⟩, s2⟩
        obtain ⟨A2, c2, rfl, f1, f2, f3⟩ := own_form own
        rw [← HR.out] at own ⊢
        have OW := Lib.hid (own_lower own S1.out.size)
        have S2 := Lib.hid (Still.trans S1.out s2)
        clear own s2 LZ f1 f2 f3
        go_wp2_with fail
        go_ret2
        exact ⟨⟨_, rfl, OW.out⟩, S2.out⟩
    · obtain ⟨R, hR⟩ : ∃ R, R = wrB b true := ⟨_, rfl⟩
      have HR := Lib.hid (show R = layB 0 n b by rw [hR, wrB_st, hl])
      rw [← hR]
      have LZ := Lib.hid (LA.out w (Still.refl w))
      clear h hl hbig hR LA
      go_enter Try.func10, Try.ntmps10
      go_wp2_with fail
      refine LZ.out.mono ?_
      rintro e w2 ⟨⟨v, rfl, own⟩, s2⟩
      obtain ⟨A2, c2, rfl, f1, f2, f3⟩ := own_form own
      rw [← HR.out] at own ⊢
      have OW := Lib.hid own
      have S2 := Lib.hid s2
      clear own s2 LZ f1 f2 f3
      go_wp2_with fail
      go_ret2
      exact ⟨⟨_, rfl, OW.out⟩, S2.out⟩
end Go.Proofs.Ytcbolakhdndffaa
