/- Contract: the document's Wrap. It proves no statement. -/
import Derived.Test.YtcbolakhdndffaaWrWrap
import Derived.Test.YtcbolakhdndffaaLzRSq
import Derived.Test.YtcbolakhdndffaaRPut
namespace Go.Proofs.Ytcbolakhdndffaa
open Go.RowKit
set_option linter.unusedVariables false
set_option linter.unusedSimpArgs false

theorem row1k (w : World) (k : Nat) (hk : k ≤ 1) : (w.alloc (.cells #[.int .u8 (k : Int)] 5)).ownsRow w.heap.size 5 1 (.slice (some ⟨w.heap.size, 0, none⟩) 1 1) 1 (bytesV (leBytes k 1)) := by
  have hb : bytesV (leBytes k 1) = [.int .u8 (k : Int)] := by
    rcases (show k = 0 ∨ k = 1 by omega) with rfl | rfl <;> rfl
  refine ⟨by rw [bytesV_length, leBytes_length], .inr ⟨w.heap.size, 1, #[.int .u8 (k : Int)], rfl, Nat.le_refl _, heap_alloc_new _ _, Nat.le_refl _, by unfold maxLen; omega, rfl, by rw [hb]; rfl⟩⟩
set_option maxRecDepth 100000 in
set_option maxHeartbeats 3200000 in
theorem rwrap_any (A : Option Addr) (n c : Nat) (b : List UInt8) (s : Bool) (w : World) (B : Nat) (h : RowS w B A n c b) (hB : B ≤ w.heap.size) (hn : n ≤ 1048576) :
    Calls Try.prog 11 #[.slice A n c, .bool s] w fun e w' => (∃ v, e = .returned (.tuple #[v, .int .i64 (wrapR b s).2]) ∧ w'.ownsRow w.heap.size 5 1 v (wrapR b s).1.length (bytesV (wrapR b s).1)) ∧ Still w w' := by
  have hl := h.reads.1
  by_cases hbig : 16379 < n
  · rw [wrapR_big (by omega)]
    have d1 : 16379 < (n : Int) := by omega
    clear h hl
    go_enter Try.func11, Try.ntmps11
    go_wp2_with fail
    go_ret2
    exact ⟨⟨_, rfl, World.ownsRow_nil _ _ _ _⟩, Still.refl _⟩
  · rw [wrapR_ok (by omega)]
    have d1 : ¬ 16379 < (n : Int) := by omega
    have d0 : (n : Int) ≤ 16379 := by omega
    obtain ⟨e1, e2⟩ := sqE_ok (b := b) (by omega)
    have SQ := Lib.hid (rsqueeze_any A n c b w B h.reads hB hn h.fit h.cap h.nil)
    rw [e1, e2] at SQ
    obtain ⟨Z, hZ⟩ : ∃ Z, Z = sqz b := ⟨_, rfl⟩
    obtain ⟨R, hR⟩ : ∃ R, R = wrB b s := ⟨_, rfl⟩
    have HRS := Lib.hid (show R = if s = false ∧ Z.length < n then layB 1 n Z else layB 0 n b by
      rw [hR, hZ, ← hl]
      cases s
      · by_cases hs : (sqz b).length < b.length
        · rw [wrB_sq hs, if_pos ⟨rfl, hs⟩]
        · rw [wrB_pl hs, if_neg (fun e => hs e.2)]
      · rw [wrB_st, if_neg (fun e => by cases e.1)])
    have HZL := Lib.hid (show Z.length ≤ 65536 by
      have := sqz_length b (by omega)
      rw [hZ]; omega)
    rw [← hZ] at SQ
    rw [← hR]
    have P2 := Lib.hid (fun W => rput_yes n 4 W (by omega) (by omega) (by omega))
    have RR := Lib.hid (fun (W : World) (st : Still w W) => h.still hB st)
    have HN := Lib.hid (show n ≤ 16379 by omega)
    have HB := Lib.hid hB
    obtain ⟨L, hL⟩ : ∃ L, L = Z.length := ⟨_, rfl⟩
    rw [← hL] at SQ HRS HZL
    have HLZ := Lib.hid hL
    clear e1 e2 hZ hR h hl hbig hL hB hn
    go_enter Try.func11, Try.ntmps11
    go_wp2_with fail
    refine SQ.out.mono ?_
    rintro e w1 ⟨⟨v, rfl, own⟩, s1⟩
    obtain ⟨A1, c1, rfl, f1, f2, f3⟩ := own_form own
    have S1 := Lib.hid s1
    have RZ := Lib.hid (fun (W : World) (st : Still w1 W) => (Reads.of_own own).still (Nat.le_refl _) st)
    have F3 := Lib.hid f3
    clear own s1 SQ f1 f2 f3
    have key : ∃ (k : Nat) (A' : Option Addr) (m' c' : Nat) (r : List UInt8), k ≤ 1 ∧ m' ≤ 65536 ∧ Hid (R = layB k n r ∧ (A' = none → c' = 0) ∧ ∀ (W : World), Still w1 W → Reads W w1.heap.size A' m' r) ∧ ((s = false ∧ L < n ∧ k = 1 ∧ A' = A1 ∧ m' = L ∧ c' = c1) ∨ ((s = true ∨ ¬ L < n) ∧ k = 0 ∧ A' = A ∧ m' = n ∧ c' = c)) := by
      by_cases hs : s = false ∧ L < n
      · refine ⟨1, A1, L, c1, Z, by omega, by have := HZL.out; omega, ⟨by rw [HRS.out, if_pos hs], fun e => (F3.out e).2, fun W st => RZ.out W st⟩, .inl ⟨hs.1, hs.2, rfl, rfl, rfl, rfl⟩⟩
      · refine ⟨0, A, n, c, b, by omega, by have := HN.out; omega, ⟨by rw [HRS.out, if_neg hs], fun e => (((RR.out w (Still.refl w)).nil) e).2, fun W st => (RR.out W (Still.trans S1.out st)).reads.more (Nat.le_trans HB.out S1.out.size)⟩, .inr ⟨?_, rfl, rfl, rfl, rfl⟩⟩
        cases s
        · exact .inr fun e => hs ⟨rfl, e⟩
        · exact .inl rfl
    obtain ⟨k, A', m', c', r, hk1, hm1, HK, hcase⟩ := key
    go_upto_region 5 with fail
    go_cut [28] (fun tx wx => tx = .bool (decide (k = 1)) ∧ wx = w1)
    case first =>
      rcases hcase with ⟨rfl, q1, rfl, rfl, rfl, rfl⟩ | ⟨q0, rfl, rfl, rfl, rfl⟩
      · have d2 : (m' : Int) < (n : Int) := by omega
        go_wp2_with fail
        go_meet
        exact ⟨rfl, rfl⟩
      · rcases q0 with rfl | q0
        · go_wp2_with fail
          go_meet
          exact ⟨rfl, rfl⟩
        · have d2 : ¬ (L : Int) < (m' : Int) := by omega
          cases s
          · go_wp2_with fail
            go_meet
            exact ⟨rfl, rfl⟩
          · go_wp2_with fail
            go_meet
            exact ⟨rfl, rfl⟩
    case rest =>
      obtain ⟨rfl, hw⟩ := hcut
      have hw := hw.symm
      subst hw
      go_upto_if 28 with fail
      go_cut [6, 7] (fun kx rx wx => kx = .int .u8 (k : Int) ∧ rx = .slice A' m' c' ∧ wx = w1)
      case first =>
        rcases hcase with ⟨rfl, q2, rfl, rfl, rfl, rfl⟩ | ⟨q0, rfl, rfl, rfl, rfl⟩
        · go_wp2_with fail
          go_meet
          exact ⟨rfl, rfl, rfl⟩
        · go_wp2_with fail
          go_meet
          exact ⟨rfl, rfl, rfl⟩
      case rest =>
        obtain ⟨rfl, rfl, hw⟩ := hcut
        have hw := hw.symm
        subst hw
        have O0 := Lib.hid (row1k w1 k hk1)
        have S0 := Lib.hid (show Still w1 (w1.alloc (.cells #[.int .u8 (k : Int)] 5)) from (Still.refl w1).alloc (Nat.le_refl _) _)
        have HM := Lib.hid hm1
        clear hcase hk1 hm1 RZ F3 HRS HLZ RR
        go_wp2_with fail
        refine (P2.out _).mono ?_
        rintro e w2 ⟨v, rfl, own2, s2⟩
        obtain ⟨A2, c2, rfl, f1, f2, f3⟩ := own_form own2
        have R2 := Lib.hid (Reads.of_own own2)
        have OW2 := Lib.hid (own_still O0.out s2)
        have S2 := Lib.hid (Still.trans S0.out s2)
        have F3 := Lib.hid f3
        clear own2 s2 P2 f1 f2 f3 O0 S0
        go_wp2_with (at_builtin; go_must (refine wpList_addsG w2 rfl _ _ rfl w1.heap.size (.slice (some ⟨w1.heap.size, 0, none⟩) 1 1) (leBytes k 1) rfl (by rw [leBytes_length]; exact OW2.out) A2 4 c2 _ (leBytes n 4) rfl R2.out (fun e => (F3.out e).2) ?c1 ?c2 ?_))
        case c1 => simp [leBytes_length]
        case c2 => exact S2.out.size
        intro v3 w3 g3
        have S3 := Lib.hid (Below.trans S2.out (g3.low (lo := w1.heap.size) (fun k e => by have := OW2.out.lt k e; omega) S2.out.size))
        have G3 := Lib.hid g3.own
        clear g3 R2 OW2 F3
        go_wp2_with (at_builtin; go_must (refine wpList_addsG w3 rfl _ _ rfl w1.heap.size v3 (leBytes k 1 ++ leBytes n 4) rfl G3.out A' m' c' _ r rfl (HK.out.2.2 _ S3.out) (fun e => HK.out.2.1 e) ?c3 ?c4 ?_))
        case c3 => have := HM.out; simp [leBytes_length]; omega
        case c4 => exact S3.out.size
        intro v4 w4 g4
        have S4 := Lib.hid (Below.trans S3.out (g4.low (lo := w1.heap.size) (fun k e => by have := G3.out.lt k e; omega) S3.out.size))
        have G4 := Lib.hid g4.own
        clear g4
        go_wp2_with fail
        go_ret2
        have h : w4.ownsRow w1.heap.size 5 1 v4 R.length (bytesV R) := by
          have h := G4.out
          rw [HK.out.1]
          unfold layB
          simpa only [List.append_assoc] using h
        exact ⟨⟨_, rfl, own_lower h S1.out.size⟩, Still.trans S1.out S4.out⟩
end Go.Proofs.Ytcbolakhdndffaa
