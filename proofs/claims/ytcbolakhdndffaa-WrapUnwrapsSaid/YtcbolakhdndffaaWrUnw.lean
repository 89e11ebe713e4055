/- Contracts: the program's take, loosen and Unwrap. It proves no statement. -/
import Derived.Test.YtcbolakhdndffaaWrLook
import Derived.Test.YtcbolakhdndffaaWrLay
import Derived.Test.YtcbolakhdndffaaLzLoose
import Derived.Test.YtcbolakhdndffaaEndLive
import Derived.Test.YtcbolakhdndffaaBytesEq
namespace Go.Proofs.Ytcbolakhdndffaa
open Go.RowKit
set_option linter.unusedVariables false
set_option linter.unusedSimpArgs false

/-- A slice of bytes in memory of the call's own. -/
def Out (w : World) (lo : Nat) (v : Value) (l : List UInt8) : Prop := ∃ A n c, v = .slice A n c ∧ Reads w w.heap.size A n l ∧ Mine w lo A n ∧ n ≤ c ∧ c ≤ 9223372036854775807 ∧ (A = none → n = 0 ∧ c = 0)
theorem Out.nil (w : World) (lo : Nat) : Out w lo (.slice none 0 0) [] := ⟨none, 0, 0, rfl, Reads.nil0, fun h => by omega, Nat.le_refl _, by omega, fun _ => ⟨rfl, rfl⟩⟩
theorem Out.of_own {w : World} {base n : Nat} {v : Value} {l : List UInt8} (h : w.ownsRow base 5 1 v n (bytesV l)) : Out w base v l := by
  obtain ⟨A, c, rfl, f1, f2, f3⟩ := own_form h
  refine ⟨A, n, c, rfl, Reads.of_own h, fun hn => ?_, f1, f2, f3⟩
  rcases h.2 with ⟨_, h0⟩ | ⟨g, cap, cur, hv, hb, hg, _⟩
  · omega
  · have e : A = some ⟨g, 0, none⟩ := by injection hv
    exact ⟨g, 0, e, hb, fun i hi => frozen_of_row w g _ cur _ hg⟩
theorem Out.still {w w' : World} {lo : Nat} {v : Value} {l : List UInt8} (h : Out w lo v l) (s : Still w w') : Out w' lo v l := by
  obtain ⟨A, n, c, rfl, rd, mi, f⟩ := h
  refine ⟨A, n, c, rfl, (rd.still (Nat.le_refl _) s).more s.size, fun hn => ?_, f⟩
  obtain ⟨b, o, e, hlo, hf⟩ := mi hn
  obtain ⟨b', o', e', hlt, _⟩ := rd.2 hn
  rw [e] at e'
  simp only [Option.some.injEq, Addr.mk.injEq, and_true] at e'
  obtain ⟨rfl, rfl⟩ := e'
  exact ⟨b, o, e, hlo, fun i hi => (World.frozen?_of_block (w := w) (s.block b hlt)).trans (hf i hi)⟩
theorem Out.lower {w : World} {lo lo' : Nat} {v : Value} {l : List UInt8} (h : Out w lo v l) (hl : lo' ≤ lo) : Out w lo' v l := by
  obtain ⟨A, n, c, rfl, rd, mi, f⟩ := h
  exact ⟨A, n, c, rfl, rd, fun hn => by obtain ⟨b, o, e, h1, h2⟩ := mi hn; exact ⟨b, o, e, by omega, h2⟩, f⟩

theorem takR_short {l : List UInt8} {n : Nat} (h : l.length < n) : takR l n = ([], 3) := by unfold takR; rw [if_pos h]
theorem takR_rest {l : List UInt8} {n : Nat} (h : n < l.length) : takR l n = ([], 6) := by unfold takR; rw [if_neg (by omega), if_pos h]
theorem takR_all {l : List UInt8} {n : Nat} (h : l.length = n) : takR l n = (l, 0) := by unfold takR; rw [if_neg (by omega), if_neg (by omega)]
set_option maxRecDepth 100000 in
set_option maxHeartbeats 1600000 in
theorem wtake_any (A : Option Addr) (m c : Nat) (l : List UInt8) (n : Nat) (w : World) (B : Nat) (h : RowS w B A m c l) (hB : B ≤ w.heap.size) (hm : m ≤ 1048576) (hn : n ≤ 16379) :
    Calls Try.prog 24 #[.slice A m c, .int .i64 n] w fun e w' => (∃ v, e = .returned (.tuple #[v, .int .i64 (takR l n).2]) ∧ Out w' w.heap.size v (takR l n).1) ∧ Still w w' := by
  have hl := h.reads.1
  have OP := Lib.hid (open_any A m c l w B h.reads hB (by omega) h.nil)
  have BY := Lib.hid (fun (W : World) (lo B g : Nat) (lv : LiveAny W lo B g l 0) => bytes_any lv (n : Int))
  obtain ⟨l1, x1, p1, hst⟩ : ∃ l1 x1 p1, rstep l 0 (n : Int) false = ((l1, x1), p1) := ⟨_, _, _, rfl⟩
  rw [hst] at BY
  have key : (x1 = 3 ∧ takR l n = ([], 3)) ∨ (x1 = 0 ∧ l1.length ≠ 0 ∧ takR l n = ([], 6)) ∨ (x1 = 0 ∧ l1.length = 0 ∧ p1 = l ∧ takR l n = (l, 0)) := by
    by_cases h1 : l.length < n
    · rw [rstep_short l n false (by simp) (by omega)] at hst
      simp only [Prod.mk.injEq] at hst
      exact .inl ⟨hst.1.2.symm, takR_short h1⟩
    · rw [rstep_ok l n false (by simp) (by omega)] at hst
      simp only [Prod.mk.injEq] at hst
      by_cases h2 : n < l.length
      · exact .inr (.inl ⟨hst.1.2.symm, by rw [← hst.1.1, List.length_drop]; omega, takR_rest h2⟩)
      · exact .inr (.inr ⟨hst.1.2.symm, by rw [← hst.1.1, List.length_drop]; omega, by rw [← hst.2, List.take_of_length_le (by omega)], takR_all (by omega)⟩)
  have HP := Lib.hid (show p1.length ≤ 16379 by
    by_cases h1 : l.length < n
    · rw [rstep_short l n false (by simp) (by omega)] at hst
      simp only [Prod.mk.injEq] at hst
      rw [← hst.2]; simp
    · rw [rstep_ok l n false (by simp) (by omega)] at hst
      simp only [Prod.mk.injEq] at hst
      rw [← hst.2, List.length_take]; omega)
  obtain ⟨X, hX⟩ : ∃ X, X = takR l n := ⟨_, rfl⟩
  rw [← hX] at key ⊢
  have KK := Lib.hid key
  clear hst h hl hB hX key
  go_enter Try.func24, Try.ntmps24
  go_wp2_with fail
  refine OP.out.mono ?_
  rintro e w1 ⟨⟨g, A1, c1, rfl, lv1⟩, s1⟩
  have G1 := Lib.hid lv1.low
  have B1 := Lib.hid (BY.out w1 _ _ g ⟨_, _, _, lv1⟩)
  have S1 := Lib.hid s1
  have SZ := Lib.hid (Nat.le_refl w1.heap.size)
  clear lv1 s1 OP BY
  go_wp2_with fail
  refine B1.out.mono ?_
  rintro e w2 ⟨A2, k2, A', n', c', rfl, lv2, ah2, rd2, mi2, nn2, gr2⟩
  have hk2 := rd2.1
  have hn' : l1.length = n' := lv2.reads.1
  have EN := Lib.hid (end_live lv2)
  have S2 := Lib.hid (still_grown S1.out gr2 G1.out)
  have OU := Lib.hid (show Out w2 w.heap.size (.slice A2 k2 k2) p1 from ⟨A2, k2, k2, rfl, rd2.more gr2.size, mi2, Nat.le_refl _, by have := HP.out; omega, fun e => ⟨nn2 e, nn2 e⟩⟩)
  rw [← hn'] at EN
  clear lv2 ah2 rd2 mi2 nn2 gr2 B1 hk2 hn'
  go_wp2_with fail
  refine EN.out.mono ?_
  rintro e w3 ⟨rfl, rfl⟩
  clear EN
  rcases KK.out with ⟨rfl, hx⟩ | ⟨rfl, h0, hx⟩ | ⟨rfl, h0, hp, hx⟩
  · have HX := Lib.hid hx
    rw [show endOf l1.length 3 = 3 by unfold endOf; rw [if_neg (by decide)]]
    clear hx KK
    go_wp2_with fail
    go_ret2
    rw [HX.out]
    exact ⟨⟨_, rfl, Out.nil _ _⟩, S2.out⟩
  · have HX := Lib.hid hx
    rw [show endOf l1.length 0 = 6 by unfold endOf; rw [if_pos rfl, if_neg h0]]
    clear hx KK h0
    go_wp2_with fail
    go_ret2
    rw [HX.out]
    exact ⟨⟨_, rfl, Out.nil _ _⟩, S2.out⟩
  · have HX := Lib.hid hx
    subst hp
    rw [show endOf l1.length 0 = 0 by unfold endOf; rw [if_pos rfl, if_pos h0]]
    clear hx KK h0
    go_wp2_with fail
    go_ret2
    rw [HX.out]
    exact ⟨⟨_, rfl, OU.out⟩, S2.out⟩

theorem losR_big {l : List UInt8} {n : Nat} (h : (looseR l n).2 = 5) : losR l n = ([], 4) := by unfold losR; rw [if_pos h]
theorem losR_err {l : List UInt8} {n : Nat} (h5 : ¬ (looseR l n).2 = 5) (h : ¬ (looseR l n).2 = 0) : losR l n = ([], (looseR l n).2) := by unfold losR; rw [if_neg h5, if_pos h]
theorem losR_ok {l : List UInt8} {n : Nat} (h : (looseR l n).2 = 0) : losR l n = if (looseR l n).1.length = n ∧ (sqz (looseR l n).1).length < (looseR l n).1.length ∧ sqz (looseR l n).1 = l then ((looseR l n).1, 0) else ([], 4) := by
  unfold losR
  rw [if_neg (by rw [h]; decide), if_neg (by rw [h]; simp)]
set_option maxRecDepth 100000 in
set_option maxHeartbeats 1600000 in
theorem wloosen_any (A : Option Addr) (m c : Nat) (l : List UInt8) (n : Nat) (w : World) (B : Nat) (h : RowS w B A m c l) (hB : B ≤ w.heap.size) (hm : m ≤ 1048576) (hn : n ≤ 16379) :
    Calls Try.prog 23 #[.slice A m c, .int .i64 n] w fun e w' => (∃ v, e = .returned (.tuple #[v, .int .i64 (losR l n).2]) ∧ Out w' w.heap.size v (losR l n).1) ∧ Still w w' := by
  have LO := Lib.hid (loosen_any A m c l n w B h.reads hB (by omega) h.nil)
  have hXl := looseR_lenW l n
  have RL := Lib.hid (fun (W : World) (st : Still w W) => (h.still hB st).reads)
  obtain ⟨Y, hY⟩ : ∃ Y, Y = losR l n := ⟨_, rfl⟩
  have k1 : (looseR l n).2 = 5 → Y = ([], 4) := fun h => by rw [hY, losR_big h]
  have k2 : ¬ (looseR l n).2 = 5 → ¬ (looseR l n).2 = 0 → Y = ([], (looseR l n).2) := fun h h' => by rw [hY, losR_err h h']
  have k3 : (looseR l n).2 = 0 → Y = if (looseR l n).1.length = n ∧ (sqz (looseR l n).1).length < (looseR l n).1.length ∧ sqz (looseR l n).1 = l then ((looseR l n).1, 0) else ([], 4) := fun h => by rw [hY, losR_ok h]
  rw [← hY]
  obtain ⟨E, hE⟩ : ∃ E, E = (looseR l n).2 := ⟨_, rfl⟩
  obtain ⟨X, hX⟩ : ∃ X, X = (looseR l n).1 := ⟨_, rfl⟩
  rw [← hE] at LO k1 k2 k3
  rw [← hX] at LO hXl k3
  have SH := Lib.hid (fun A' c' (W : World) B' (r : RowS W B' A' X.length c' X) (hB' : B' ≤ W.heap.size) => shorter_any A' X.length c' X W B' r hB' (by omega))
  have K1 := Lib.hid k1
  have K2 := Lib.hid k2
  have K3 := Lib.hid k3
  have HXL := Lib.hid hXl
  clear h hB hm hY hE hX hXl k1 k2 k3
  obtain ⟨L, hL⟩ : ∃ L, L = X.length := ⟨_, rfl⟩
  rw [← hL] at LO SH
  by_cases h5 : E = 5
  · subst h5
    have HY := Lib.hid (K1.out rfl)
    go_enter Try.func23, Try.ntmps23
    go_wp2_with fail
    refine LO.out.mono ?_
    rintro e w1 ⟨⟨v, rfl, own⟩, s1⟩
    obtain ⟨A1, c1, rfl, f1, f2, f3⟩ := own_form own
    have S1 := Lib.hid s1
    clear own s1 LO f1 f2 f3
    go_wp2_with fail
    go_ret2
    rw [HY.out]
    exact ⟨⟨_, rfl, Out.nil _ _⟩, S1.out⟩
  · by_cases h0 : E = 0
    · subst h0
      have HY := Lib.hid (K3.out rfl)
      obtain ⟨ok, hok⟩ : ∃ ok, ok = decide ((sqz X).length < L) := ⟨_, rfl⟩
      rw [← hok] at SH
      have HOK := Lib.hid hok
      have HL := Lib.hid hL
      have key : (L ≠ n ∧ Hid (Y = ([], 4))) ∨ (L = n ∧ ok = false ∧ Hid (Y = ([], 4))) ∨ (L = n ∧ ok = true ∧ ∃ q, Hid (q = decide (shB X = l)) ∧ Hid (Y = if q = true then (X, 0) else ([], 4))) := by
        by_cases q1 : L = n
        · by_cases q2 : (sqz X).length < X.length
          · refine .inr (.inr ⟨q1, by rw [hok, hL]; exact decide_eq_true q2, _, rfl, ?_⟩)
            have e : shB X = sqz X := by unfold shB; rw [if_pos q2]
            show Y = _
            rw [HY.out, e]
            by_cases q3 : sqz X = l
            · rw [if_pos ⟨by omega, q2, q3⟩, if_pos (decide_eq_true q3)]
            · rw [if_neg (fun h => q3 h.2.2), if_neg (by simp [q3])]
          · exact .inr (.inl ⟨q1, by rw [hok, hL]; exact decide_eq_false q2, (by rw [HY.out, if_neg (fun h => q2 h.2.1)] : Y = ([], 4))⟩)
        · exact .inl ⟨q1, (by rw [HY.out, if_neg (fun h => q1 (by omega))] : Y = ([], 4))⟩
      clear K1 K2 K3 hok hL HY
      go_enter Try.func23, Try.ntmps23
      go_wp2_with fail
      refine LO.out.mono ?_
      rintro e w1 ⟨⟨v, rfl, own⟩, s1⟩
      obtain ⟨A1, c1, rfl, f1, f2, f3⟩ := own_form own
      have S1 := Lib.hid s1
      have SS := Lib.hid (SH.out A1 c1 w1 _ ⟨Reads.of_own own, f1, f2, f3⟩ (Nat.le_refl _))
      have OX := Lib.hid (Out.of_own own)
      clear own s1 LO f1 f2 f3 SH
      go_wp2_with fail
      refine SS.out.mono ?_
      rintro e w2 ⟨⟨v, rfl, own⟩, s2⟩
      obtain ⟨A2, c2, rfl, f1, f2, f3⟩ := own_form own
      have S2 := Lib.hid (Still.trans S1.out s2)
      have OX2 := Lib.hid (OX.out.still s2)
      have EQ := Lib.hid (bytesEq_any A2 A (shB X).length m c2 c (shB X) l w2 _ _ (Reads.of_own own) (RL.out w2 S2.out))
      obtain ⟨z, hz⟩ : ∃ z, z = (shB X).length := ⟨_, rfl⟩
      rw [← hz] at EQ ⊢
      clear own s2 SS f1 f2 f3 OX hz
      rcases key with ⟨q1, hy⟩ | ⟨q1, rfl, hy⟩ | ⟨q1, rfl, q, hq, hy⟩
      · have b1 : ((L : Int) != (n : Int)) = true := by rw [bne_iff_ne]; omega
        clear EQ
        go_wp2_with fail
        go_ret2
        rw [hy.out]
        exact ⟨⟨_, rfl, Out.nil _ _⟩, S2.out⟩
      · have b1 : ((L : Int) != (n : Int)) = false := by simp [q1]
        clear EQ q1
        go_wp2_with fail
        go_ret2
        rw [hy.out]
        exact ⟨⟨_, rfl, Out.nil _ _⟩, S2.out⟩
      · have b1 : ((L : Int) != (n : Int)) = false := by simp [q1]
        rw [← hq.out] at EQ
        clear q1 hq
        cases q
        · have HY := Lib.hid (show Y = ([], 4) by rw [hy.out]; rfl)
          clear hy
          go_wp2_with fail
          refine EQ.out.mono ?_
          rintro e w3 ⟨rfl, rfl⟩
          clear EQ
          go_wp2_with fail
          go_ret2
          rw [HY.out]
          exact ⟨⟨_, rfl, Out.nil _ _⟩, S2.out⟩
        · have HY := Lib.hid (show Y = (X, 0) by rw [hy.out]; rfl)
          clear hy
          go_wp2_with fail
          refine EQ.out.mono ?_
          rintro e w3 ⟨rfl, rfl⟩
          clear EQ
          go_wp2_with fail
          go_ret2
          rw [HY.out]
          exact ⟨⟨_, rfl, OX2.out⟩, S2.out⟩
    · have HY := Lib.hid (K2.out h5 h0)
      have b5 : (E == 5) = false := by simpa using h5
      have b0 : (E != 0) = true := by simpa using h0
      clear K1 K2 K3
      go_enter Try.func23, Try.ntmps23
      go_wp2_with fail
      refine LO.out.mono ?_
      rintro e w1 ⟨⟨v, rfl, own⟩, s1⟩
      obtain ⟨A1, c1, rfl, f1, f2, f3⟩ := own_form own
      have S1 := Lib.hid s1
      clear own s1 LO f1 f2 f3
      go_wp2_with fail
      go_ret2
      rw [HY.out]
      exact ⟨⟨_, rfl, Out.nil _ _⟩, S1.out⟩

/-- What is left behind five bytes. -/
theorem rest5 {w : World} {B n c : Nat} {A : Option Addr} {l : List UInt8} (h : RowS w B A n c l) (hn : 5 ≤ n) :
    ∃ A' n' c', RowS w B A' n' c' (l.drop 5) ∧ n' ≤ n ∧ ((c = 5 ∧ A' = A ∧ n' = 0 ∧ c' = 0) ∨ (¬ c = 5 ∧ n' = n - 5 ∧ c' = c - 5 ∧ ∃ b o, A = some ⟨b, o, none⟩ ∧ A' = some ⟨b, o + 5, none⟩)) := by
  by_cases hc : c = 5
  · have hf := h.fit
    have e : l.drop 5 = [] := List.drop_of_length_le (by have := h.reads.1; omega)
    refine ⟨A, 0, 0, ⟨?_, by omega, by omega, fun _ => ⟨by omega, rfl⟩⟩, by omega, .inl ⟨hc, rfl, rfl, rfl⟩⟩
    rw [e]
    exact Reads.nil0
  · obtain ⟨b, o, rfl, _⟩ := h.reads.at_ (by omega)
    have := h.dropk (k := 5) hn
    simp only [Option.map_some, Addr.add_lit] at this
    exact ⟨_, _, _, this, by omega, .inr ⟨hc, rfl, rfl, b, o, rfl, rfl⟩⟩
theorem unwR_err {l : List UInt8} (h : ¬ (lookR l).2.2 = 0) : unwR l = ([], (lookR l).2.2) := by unfold unwR; rw [if_pos h]
theorem unwR_sq {l : List UInt8} (h : (lookR l).2.2 = 0) (h1 : (lookR l).1 = 1) : unwR l = losR (l.drop 5) (lookR l).2.1 := by unfold unwR; rw [if_neg (by simpa using h), if_pos h1]
theorem unwR_st {l : List UInt8} (h : (lookR l).2.2 = 0) (h1 : ¬ (lookR l).1 = 1) : unwR l = takR (l.drop 5) (lookR l).2.1 := by unfold unwR; rw [if_neg (by simpa using h), if_neg h1]
set_option maxRecDepth 100000 in
set_option maxHeartbeats 1600000 in
theorem unwrap_any (A : Option Addr) (n c : Nat) (l : List UInt8) (w : World) (B : Nat) (h : RowS w B A n c l) (hB : B ≤ w.heap.size) (hn : n ≤ 1048576) :
    Calls Try.prog 14 #[.slice A n c] w fun e w' => (∃ v, e = .returned (.tuple #[v, .int .i64 (unwR l).2]) ∧ Out w' w.heap.size v (unwR l).1) ∧ Still w w' := by
  have hl := h.reads.1
  have LK := Lib.hid (look_any A n c l w B h hB)
  obtain ⟨U, hU⟩ : ∃ U, U = unwR l := ⟨_, rfl⟩
  rw [← hU]
  obtain ⟨K, hK⟩ : ∃ K, K = (lookR l).1 := ⟨_, rfl⟩
  obtain ⟨M, hM⟩ : ∃ M, M = (lookR l).2.1 := ⟨_, rfl⟩
  obtain ⟨E, hE⟩ : ∃ E, E = (lookR l).2.2 := ⟨_, rfl⟩
  rw [← hK, ← hM, ← hE] at LK
  by_cases hE0 : E = 0
  · obtain ⟨p5, pk, pm, _⟩ := lookR_lay l (by rw [← hE]; exact hE0)
    rw [← hK] at pk
    rw [← hM] at pm
    obtain ⟨A', n', c', hr, hn', hcase⟩ := rest5 h (by omega)
    have hcap := h.cap
    have hfit := h.fit
    have d1 : (5 : Int) ≤ (n : Int) := by omega
    have RS := Lib.hid (fun (W : World) (st : Still w W) => hr.still hB st)
    have HB := Lib.hid hB
    by_cases hk1 : K = 1
    · have HU := Lib.hid (show U = losR (l.drop 5) M by rw [hU, unwR_sq (by rw [← hE]; exact hE0) (by rw [← hK]; exact hk1), ← hM])
      have CA := Lib.hid (fun (W : World) (st : Still w W) => wloosen_any A' n' c' (l.drop 5) M W B (RS.out W st) (Nat.le_trans HB.out st.size) (by omega) pm)
      rw [← HU.out] at CA
      subst hE0
      subst hk1
      clear h hl hU hK hM hE pk hr RS HB HU
      rcases hcase with ⟨rfl, rfl, rfl, rfl⟩ | ⟨k1, rfl, rfl, bb, oo, rfl, rfl⟩
      all_goals
        go_enter Try.func14, Try.ntmps14
        go_wp2_with fail
        refine LK.out.mono ?_
        rintro e w1 ⟨rfl, s1⟩
        have S1 := Lib.hid s1
        have CB := Lib.hid (CA.out w1 s1)
        clear s1 LK CA
        go_wp2_with fail
        refine CB.out.mono ?_
        rintro e w2 ⟨⟨v, rfl, ou⟩, s2⟩
        have OU := Lib.hid (ou.lower S1.out.size)
        have S2 := Lib.hid (Still.trans S1.out s2)
        clear ou s2 CB
        go_wp2_with fail
        go_ret2
        exact ⟨⟨_, rfl, OU.out⟩, S2.out⟩
    · have HU := Lib.hid (show U = takR (l.drop 5) M by rw [hU, unwR_st (by rw [← hE]; exact hE0) (by rw [← hK]; exact hk1), ← hM])
      have CA := Lib.hid (fun (W : World) (st : Still w W) => wtake_any A' n' c' (l.drop 5) M W B (RS.out W st) (Nat.le_trans HB.out st.size) (by omega) pm)
      rw [← HU.out] at CA
      subst hE0
      obtain rfl : K = 0 := by omega
      rw [show (((0 : Nat) : Int)) = 0 from rfl] at LK
      clear h hl hU hK hM hE pk hr RS HB HU hk1
      rcases hcase with ⟨rfl, rfl, rfl, rfl⟩ | ⟨k1, rfl, rfl, bb, oo, rfl, rfl⟩
      all_goals
        go_enter Try.func14, Try.ntmps14
        go_wp2_with fail
        refine LK.out.mono ?_
        rintro e w1 ⟨rfl, s1⟩
        have S1 := Lib.hid s1
        have CB := Lib.hid (CA.out w1 s1)
        clear s1 LK CA
        go_wp2_with fail
        refine CB.out.mono ?_
        rintro e w2 ⟨⟨v, rfl, ou⟩, s2⟩
        have OU := Lib.hid (ou.lower S1.out.size)
        have S2 := Lib.hid (Still.trans S1.out s2)
        clear ou s2 CB
        go_wp2_with fail
        go_ret2
        exact ⟨⟨_, rfl, OU.out⟩, S2.out⟩
  · have HU := Lib.hid (show U = ([], E) by rw [hU, unwR_err (by rw [← hE]; exact hE0), ← hE])
    have b0 : (E != 0) = true := by simpa using hE0
    clear h hl hU hK hM hE hB hn hE0
    go_enter Try.func14, Try.ntmps14
    go_wp2_with fail
    refine LK.out.mono ?_
    rintro e w1 ⟨rfl, s1⟩
    have S1 := Lib.hid s1
    clear s1 LK
    go_wp2_with fail
    go_ret2
    rw [HU.out]
    exact ⟨⟨_, rfl, Out.nil _ _⟩, S1.out⟩
end Go.Proofs.Ytcbolakhdndffaa
