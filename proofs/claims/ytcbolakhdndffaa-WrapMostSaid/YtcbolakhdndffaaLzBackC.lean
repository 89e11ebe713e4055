/- Contract: the program's teller: bytes told from further back. It proves no statement. -/
import Derived.Test.YtcbolakhdndffaaLzLit
import Derived.Deep.RegionLaw
import Derived.BigRegion
namespace Go.Proofs.Ytcbolakhdndffaa
open Go.RowKit
set_option linter.unusedVariables false
set_option linter.unusedSimpArgs false

theorem backL_succ (d k : Nat) (t : List UInt8) : backL d (k + 1) t = backL d k t ++ [(backL d k t).getD ((backL d k t).length - d) 0] := by
  induction k generalizing t with
  | zero => rfl
  | succ k ih =>
    rw [backL, ih]
    rfl

set_option maxRecDepth 100000 in
set_option maxHeartbeats 3200000 in
theorem tl_back {w : World} {lo h g most : Nat} {t l : List UInt8} (T : Tl w lo h g most t l 0) (m : Nat) (hm : m ≤ 15) (hl : l.length ≤ 1048576) :
    Calls Try.prog 54 #[.pointer (some ⟨h, 0, none⟩), .int .i64 m] w fun e w' => e = .returned (.int .i64 (backS most m l t).1) ∧ Below lo w w' ∧ ((backS most m l t).1 = 0 → Tl w' lo h g most (backS most m l t).2.2 (backS most m l t).2.1 0) := by
  have c0 := T.c0
  have HF := Lib.hid T.fit
  by_cases hs : l.length < 2
  · have e : backS most m l t = (3, l, t) := by unfold backS; rw [if_pos hs]
    rw [e]
    have NM := Lib.hid (tl_num T 2 (by omega) (by omega) 0 (by rw [if_pos hs]))
    rw [show ((2 : Nat) : Int) = 2 from rfl, show ((0 : Nat) : Int) = 0 from rfl] at NM
    have HS := Lib.hid hs
    clear e hs T
    go_enter Try.func54, Try.ntmps54
    go_wp2_with fail
    refine NM.out.mono ?_
    rintro e w2 ⟨rfl, s2, t2, _⟩
    have T2 := Lib.hid (t2 HS.out)
    have S2 := Lib.hid s2
    have c2 := T2.out.c0
    clear t2 s2 NM c0
    go_wp2_with fail
    refine (tl_err T2.out).mono ?_
    rintro e w3 ⟨rfl, rfl⟩
    go_wp2_with fail
    go_ret
    exact ⟨rfl, S2.out, fun h => by cases h⟩
  · have e0 : backS most m l t = if leNum (l.take 2) = 0 ∨ t.length < leNum (l.take 2) then ((4 : Int), l, t) else backT most (leNum (l.take 2)) l t (numR m (l.drop 2)) := by unfold backS; rw [if_neg hs]
    have NM := Lib.hid (tl_num T 2 (by omega) (by omega) (leNum (l.take 2)) (by rw [if_neg hs]))
    have hd6 : leNum (l.take 2) < 65536 := by have := leNum_lt (l.take 2); rw [List.length_take, Nat.min_eq_left (by omega)] at this; simpa using this
    rw [show ((2 : Nat) : Int) = 2 from rfl] at NM
    obtain ⟨d, hd⟩ : ∃ d, d = leNum (l.take 2) := ⟨_, rfl⟩
    rw [← hd] at NM e0 hd6
    have HS := Lib.hid hs
    have HE := Lib.hid e0
    clear hs T hd e0
    by_cases hbad : d = 0 ∨ t.length < d
    · have e : backS most m l t = (4, l, t) := by rw [HE.out, if_pos hbad]
      rw [e]
      clear e
      have key : (d = 0) ∨ (¬ d = 0 ∧ t.length < d) := by omega
      obtain ⟨k, hk⟩ : ∃ k, k = t.length := ⟨_, rfl⟩
      rw [← hk] at key
      have HK := Lib.hid hk
      clear hk hbad
      rcases key with rfl | ⟨k1, k2⟩
      · go_enter Try.func54, Try.ntmps54
        go_wp2_with fail
        refine NM.out.mono ?_
        rintro e w2 ⟨rfl, s2, _, t2⟩
        have T2 := Lib.hid (t2 (by have := HS.out; omega))
        have S2 := Lib.hid s2
        have c2 := T2.out.c0
        clear t2 s2 NM c0
        go_wp2_with fail
        refine (tl_err T2.out).mono ?_
        rintro e w3 ⟨rfl, rfl⟩
        go_wp2_with fail
        go_ret
        exact ⟨rfl, S2.out, fun h => by cases h⟩
      · have b0 : ((d : Int) == 0) = false := by simp; omega
        go_enter Try.func54, Try.ntmps54
        go_wp2_with fail
        refine NM.out.mono ?_
        rintro e w2 ⟨rfl, s2, _, t2⟩
        have T2 := Lib.hid (t2 (by have := HS.out; omega))
        have S2 := Lib.hid s2
        have c2 := T2.out.c0
        obtain ⟨A, c, c3⟩ := T2.out.c1
        rw [← HK.out] at c3
        clear t2 s2 NM c0
        go_wp2_with fail
        refine (tl_err T2.out).mono ?_
        rintro e w3 ⟨rfl, rfl⟩
        go_wp2_with fail
        go_ret
        exact ⟨rfl, S2.out, fun h => by cases h⟩
    · have e1 : backS most m l t = backT most d l t (numR m (l.drop 2)) := by rw [HE.out, if_neg hbad]
      have HE1 := Lib.hid e1
      have b0 : ((d : Int) == 0) = false := by simp; omega
      obtain ⟨k, hk⟩ : ∃ k, k = t.length := ⟨_, rfl⟩
      have hdk : ¬ ((k : Int) < (d : Int)) := by omega
      have HBAD := Lib.hid hbad
      have HK := Lib.hid hk
      clear e1 HE hbad hk
      go_enter Try.func54, Try.ntmps54
      go_wp2_with fail
      refine NM.out.mono ?_
      rintro e w2 ⟨rfl, s2, _, t2⟩
      have T2 := Lib.hid (t2 (by have := HS.out; omega))
      have S2 := Lib.hid s2
      have c2 := T2.out.c0
      obtain ⟨A, c, c3⟩ := T2.out.c1
      rw [← HK.out] at c3
      clear t2 s2 NM c0
      go_wp2_with fail
      refine (tl_err T2.out).mono ?_
      rintro e w3 ⟨rfl, rfl⟩
      have NU := Lib.hid (number_any T2.out m (by omega) (by simp; omega))
      go_wp2_with fail
      refine NU.out.mono ?_
      rintro e w3 ⟨y, l3, x3, rfl, t3, s3, hcase, hy⟩
      have hy2 : y ≤ 300000000 := by simp at hy; omega
      have T3 := Lib.hid t3
      have S3 := Lib.hid s3
      clear t3 s3 hy NU c2 c3
      have RM := Lib.hid (room_any T3.out (y + 4) (by omega))
      have i1 : IntKind.i64.wrap ((y : Int) + 4) = ((y + 4 : Nat) : Int) := by rw [IntKind.wrap_i64]; omega
      go_wp2_with fail
      rw [show ((y : Int) + 4) = ((y + 4 : Nat) : Int) by omega]
      refine RM.out.mono ?_
      rintro e w4 ⟨rfl, mm, hmm⟩
      have T4 := Lib.hid (T3.out.drew mm)
      rw [← hmm] at T4
      have S4 := Lib.hid (show Below lo w w4 by rw [hmm]; exact Below.trans S2.out (Below.trans S3.out ((still_drewN (Still.refl w3) mm).mono (by have := T3.out.lt; have := T3.out.low; omega))))
      clear hmm RM T3 S3 S2 T2
      have FIN : Hid (∀ (z : Int) (L L2 : List UInt8), backT most d l t (numR m (l.drop 2)) = (z, L, L2) → backS most m l t = (z, L, L2)) := Lib.hid (fun z L L2 e => HE1.out.trans e)
      rcases hcase with ⟨rfl, hnum⟩ | ⟨rfl, hnum⟩
      · by_cases hr : most < t.length + (y + 4)
        · have e3 : roomR most t.length (y + 4) 0 = 5 := by unfold roomR; rw [if_neg (by decide), if_pos hr]
          rw [e3]
          have e4 := FIN.out 5 l t (by rw [hnum]; unfold backT; simp only; rw [if_pos hr])
          have E4 := Lib.hid e4
          clear e3 e4 hr hnum
          go_wp2_with fail
          go_ret
          rw [E4.out]
          exact ⟨rfl, S4.out, fun h => by cases h⟩
        · have e3 : roomR most t.length (y + 4) 0 = 0 := by unfold roomR; rw [if_neg (by decide), if_neg hr]
          rw [e3]
          have e4 := FIN.out 0 l3 (backL d (y + 4) t) (by rw [hnum]; unfold backT; simp only; rw [if_neg hr])
          have E4 := Lib.hid e4
          have HR := Lib.hid hr
          clear e3 e4 hr hnum FIN
          go_wp2_with fail
          go_loopw [45] (fun jv wr => ∃ j : Nat, jv = .int .i64 j ∧ j ≤ y + 4 ∧ Hid (Tl wr lo h g most (backL d j t) l3 0 ∧ Below lo w wr)) (fun jv _ => y + 4 - (intOf jv).toNat)
          case atStart => exact ⟨0, rfl, by omega, T4.out, S4.out⟩
          case round =>
            obtain ⟨j, rfl, hj, hh⟩ := hrel
            by_cases hlt : j < y + 4
            · obtain ⟨T5, S5⟩ := hh.out
              obtain ⟨A5, c5, hb5, ho5⟩ := T5.ex
              have hlen := backL_length d j t
              obtain ⟨N, hN⟩ : ∃ N, N = (backL d j t).length := ⟨_, rfl⟩
              obtain ⟨L, hL⟩ : ∃ L, L = backL d j t := ⟨_, rfl⟩
              have hsucc := backL_succ d j t
              rw [← hL] at hN T5 hb5 ho5 hlen hsucc
              rw [← hN] at hb5 ho5 hlen hsucc
              have hNd : d ≤ N ∧ 1 ≤ d ∧ N ≤ 65536 := by have := HBAD.out; have := HF.out; have := HR.out; omega
              obtain ⟨p, hp⟩ : ∃ p, p = N - d := ⟨_, rfl⟩
              rw [← hp] at hsucc
              have rd := Reads.of_own ho5
              obtain ⟨bt, ot, rfl, hbt, hcells⟩ := rd.at_ (by omega)
              obtain ⟨b, hbb⟩ : ∃ b, b = L.getD p 0 := ⟨_, rfl⟩
              have q2 : wr.cell? ⟨bt, ot + p, none⟩ = some (.int .u8 (b.toNat : Int)) := by rw [hbb]; exact hcells p (by omega)
              rw [← hbb] at hsucc
              have q1 : wr.cell? ⟨h, 1, none⟩ = some (.slice (some ⟨bt, ot, none⟩) N c5) := hb5.cell 1
              have i2 : IntKind.i64.wrap ((N : Int) - (d : Int)) = (p : Int) := by rw [IntKind.wrap_i64]; omega
              have z1 : (0 : Int) ≤ (p : Int) := by omega
              have z2 : (p : Int) < (N : Int) := by omega
              have hhl : h < wr.heap.size := hb5.lt
              have HX := Lib.hid (And.intro hsucc (And.intro hN hNd))
              have HB5 := Lib.hid hb5
              have HO5 := Lib.hid ho5
              have T6 := Lib.hid T5
              have S6 := Lib.hid S5
              have HLT := Lib.hid (And.intro hlt hlen)
              clear T5 S5 hb5 ho5 hlen hN hL hsucc hNd hp rd hcells hbb hh hbt hlt
              have d1 : (j : Int) < (y : Int) + 4 := by have := HLT.out.1; omega
              obtain ⟨wa, hwa⟩ : ∃ wa, wa = (wr.alloc (.cells #[.int .u8 (b.toNat : Int)] 5)).drew := ⟨_, rfl⟩
              have OWA := Lib.hid (show wa.ownsRow (h + 1) 5 1 (.slice (some ⟨bt, ot, none⟩) N c5) N (bytesV L) by rw [hwa]; exact (HO5.out.alloc _).drew)
              have SA := Lib.hid (show Still wr wa by rw [hwa]; exact ((Still.refl wr).alloc (Nat.le_refl _) _).drew)
              have CA := Lib.hid (show wa.cell? ⟨wr.heap.size, 0, none⟩ = some (.int .u8 (b.toNat : Int)) by rw [hwa]; exact (cell_of_row _ wr.heap.size 0 _ _ _ (heap_alloc_new wr _)))
              have LA := Lib.hid (show h + 1 ≤ wa.heap.size by have := SA.out.size; omega)
              have GRW := Lib.hid (fun (v5 : Value) (w5 : World) (own5 : w5.ownsRow (h + 1) 5 1 v5 (N + 1) (bytesV (L ++ [b]))) (gr5 : wa.grownBy w5 (Value.slice (some ⟨bt, ot, none⟩) N c5).ownBlock) (loc5 : v5.ownBlock = (Value.slice (some ⟨bt, ot, none⟩) N c5).ownBlock ∨ v5.ownBlock = some wa.heap.size) =>
                (show (∃ A9 c9, v5 = .slice A9 (N + 1) c9) ∧ Tl (w5.setCell ⟨h, 1, none⟩ v5) lo h g most (L ++ [b]) l3 0 ∧ w5.frozen? ⟨h, 1, none⟩ = false ∧ w5.cell? ⟨h, 1, none⟩ = some (.slice (some ⟨bt, ot, none⟩) N c5) ∧ Below lo wr (w5.setCell ⟨h, 1, none⟩ v5) by
                  have eL : (L ++ [b]).length = N + 1 := by rw [List.length_append, ← HX.out.2.1]; rfl
                  have G : Grew wr w5 (h + 1) (.slice (some ⟨bt, ot, none⟩) L.length c5) v5 (L ++ [b]) := by
                    rw [← HX.out.2.1]
                    refine Grew.still SA.out ⟨by rw [eL]; exact own5, gr5, fun k e => ?_⟩
                    rcases loc5 with hh | hh
                    · exact .inl (hh ▸ e)
                    · rw [hh] at e; cases e; exact .inr (Nat.le_refl _)
                  have q := T6.out.grow (by rw [← HX.out.2.1]; exact HB5.out) G (by rw [eL]; have := HX.out; have := HR.out; have := HLT.out; omega) (fun k e => (HO5.out.lt k e).1)
                  rw [eL, ← HX.out.2.1] at q
                  exact q))
              have hN16 : N < 140737488355328 := by have := HX.out; omega
              have HN16 := Lib.hid hN16
              have HWA := Lib.hid hwa
              clear hwa hN16
              go_wp2_with fail
              go_region_law ((rw [← HWA.out]; refine step_push wa (by rfl) (.tmp 51) (.tmp 65) (by rfl) (h + 1) (.slice (some ⟨bt, ot, none⟩) N c5) N L (by rfl) OWA.out wr.heap.size b (by rfl) CA.out HN16.out LA.out ?_; intro v5 w5 own5 gr5 loc5; obtain ⟨⟨A9, c9, hv9⟩, T9, f9, c9', S9⟩ := GRW.out v5 w5 own5 gr5 loc5; subst hv9; have T10 := Lib.hid T9; have S10 := Lib.hid S9; clear T9 S9 own5 gr5 loc5))
              all_goals
                go_wp2_with fail
                go_roundw
                case rel => exact ⟨j + 1, by go_num, by have := HLT.out; omega, by rw [HX.out.1]; exact T10.out, Below.trans S6.out (S10.out)⟩
                case measure => simp [intOf]; have := HLT.out; omega
            · obtain rfl : j = y + 4 := by omega
              have d2 : ¬ (((y + 4 : Nat) : Int) < (y : Int) + 4) := by omega
              have T5 := Lib.hid hh.out.1
              have S5 := Lib.hid hh.out.2
              clear hh
              go_wp2_with fail
              go_ret
              rw [E4.out]
              exact ⟨rfl, S5.out, fun _ => T5.out⟩
      · have e3 : roomR most t.length (y + 4) 3 = 3 := by unfold roomR; rw [if_pos (by decide)]
        rw [e3]
        have e4 := FIN.out 3 l t (by rw [hnum]; rfl)
        have E4 := Lib.hid e4
        clear e3 e4 hnum
        go_wp2_with fail
        go_ret
        rw [E4.out]
        exact ⟨rfl, S4.out, fun h => by cases h⟩
end Go.Proofs.Ytcbolakhdndffaa
