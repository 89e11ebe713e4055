/- Walk: RollPlays. It proves no statement. -/
import Derived.Test.YtaijilmafdoaoaaRlLives
import Derived.Deep.DeepCutAuto
namespace Go.Proofs.Ytaijilmafdoaoaa
open Go.RowKit
set_option linter.unusedVariables false
set_option linter.unusedSimpArgs false

theorem had_new_at' (seed n g : Nat) (w : World) (hs : seed < 4294967296) (hn : 0 < n) (hm : n ≤ 63) (hg : g = w.heap.size) :
    Calls Try.prog 15 #[.int .u32 seed, .int .i64 (n : Nat)] w fun e w' => e = .returned (.tuple #[.pointer (some ⟨g, 0, none⟩), .int .i64 0]) ∧ Had w' g seed n [] ∧ Still w w' := by
  subst hg
  exact had_new seed n w hs hn hm
theorem had_empty (seed n : Nat) : sm seed (lastL n []) = 0 := by rw [lastL_nil, sm_nil]
set_option maxRecDepth 100000 in
set_option maxHeartbeats 4000000 in
theorem rollPlays_walk (seed : Nat) (win : Int) (a2 : Option Addr) (len2 cap2 : Nat) (z2 : List Int) (cl : Int) (w : World) (hs : seed < 4294967296) (h2 : RowIn .u8 w a2 len2 cap2 z2) :
    Calls Try.prog 4 #[.int .u32 seed, .int .i64 win, .slice a2 len2 cap2, .int .i64 cl] w fun e w' => e = .returned (.bool true) ∧ Still w w' := by
  obtain ⟨n, l, rl, hn, hcut⟩ := cut_row h2 150 (by omega)
  have C1 := Lib.hid hcut
  have RL := Lib.hid rl
  have hlen : l.length = n := rl.reads.1
  have LEN := Lib.hid hlen
  obtain ⟨g, hg⟩ : ∃ g, g = w.heap.size := ⟨_, rfl⟩
  have HG := Lib.hid hg
  clear hcut rl h2 hlen hg
  by_cases hwin : 1 ≤ win ∧ win ≤ 63
  · obtain ⟨m, rfl⟩ : ∃ m : Nat, win = (m : Int) := ⟨win.toNat, by omega⟩
    have hm : 0 < m := by omega
    have hm3 : m ≤ 63 := by omega
    have y1 : ¬ (m : Int) < 1 := by omega
    have y2 : ¬ (63 : Int) < (m : Int) := by omega
    have y3 : (1 : Int) ≤ (m : Int) := by omega
    have y4 : (m : Int) ≤ 63 := by omega
    have NW := Lib.hid (had_new_at' seed m g w hs hm hm3 HG.out)
    clear hwin
    go_enter Try.func4, Try.ntmps4
    go_wp2_with fail
    refine C1.out.mono ?_
    rintro e w1 ⟨rfl, rfl⟩
    go_wp2_with fail
    refine NW.out.mono ?_
    rintro e w1 ⟨rfl, h1, s1⟩
    have H1 := Lib.hid (And.intro h1 s1)
    have VL := Lib.hid (had_value h1 hm hm3)
    rw [had_empty] at VL
    have FL := Lib.hid (had_full h1 hm hm3)
    rw [decide_eq_false (show ¬ m ≤ ([] : List UInt8).length by simp; omega)] at FL
    clear h1 s1 NW C1
    go_wp2_with fail
    refine VL.out.mono ?_
    rintro e w2 ⟨rfl, rfl⟩
    go_wp2_with fail
    refine FL.out.mono ?_
    rintro e w3 ⟨rfl, s3⟩
    have H3 := Lib.hid (And.intro (H1.out.1.still (drewN_some s3)) (H1.out.2.trans (drewN_some s3)))
    clear s3 H1 VL FL
    go_wp2_with fail
    go_loopw [11, 12] (fun fv iv wr => ∃ f k : Nat, fv = .int .i64 f ∧ iv = .int .i64 k ∧ f ≤ k ∧ k ≤ n ∧ Hid (Had wr g seed m ((l.drop f).take (k - f)) ∧ Still w wr)) (fun _ iv _ => n - (intOf iv).toNat)
    case atStart => exact ⟨0, 0, rfl, rfl, by omega, by omega, by simpa using H3.out.1, H3.out.2⟩
    case round =>
      obtain ⟨f0, k, rfl, rfl, hf0, hk, hin⟩ := hrel
      clear H3
      by_cases hlt : k < n
      · have x1 : (k : Int) < (n : Int) := by omega
        go_upto_if 60 with fail
        go_cut [11] (fun fv wx => ∃ f : Nat, fv = .int .i64 f ∧ f ≤ k ∧ Hid (Had wx g seed m ((l.drop f).take (k - f)) ∧ Still w wx))
        case first =>
          by_cases hcl : (k : Int) = cl
          · subst hcl
            have CL := Lib.hid (had_clear hin.out.1 hm hm3)
            go_wp2_with fail
            refine CL.out.mono ?_
            rintro e w4 ⟨rfl, h4, g4⟩
            have H4 := Lib.hid (And.intro h4 (Still.put hin.out.2 g4 (by rw [HG.out]; exact Nat.le_refl _)))
            have VL := Lib.hid (had_value h4 hm hm3)
            rw [had_empty] at VL
            have FL := Lib.hid (had_full h4 hm hm3)
            rw [decide_eq_false (show ¬ m ≤ ([] : List UInt8).length by simp; omega)] at FL
            clear h4 g4 CL
            go_wp2_with fail
            refine VL.out.mono ?_
            rintro e w5 ⟨rfl, rfl⟩
            go_wp2_with fail
            refine FL.out.mono ?_
            rintro e w6 ⟨rfl, s6⟩
            have H6 := Lib.hid (And.intro (H4.out.1.still (drewN_some s6)) (H4.out.2.trans (drewN_some s6)))
            clear s6 H4 VL FL
            go_wp2_with fail
            go_meet
            case rel => exact ⟨k, rfl, by omega, by simpa using H6.out.1, H6.out.2⟩
          · have hcb : decide ((k : Int) = cl) = false := decide_eq_false hcl
            have hcb2 : ((k : Int) == cl) = false := by rw [beq_eq_false_iff_ne]; exact hcl
            go_wp2_with fail
            go_meet
            case rel => exact ⟨f0, rfl, hf0, hin.out⟩
        case rest =>
          obtain ⟨f, rfl, hf, hix⟩ := hcut
          clear hin hf0
          obtain ⟨l', hl'⟩ : ∃ l', l' = (l.drop f).take (k + 1 - f) := ⟨_, rfl⟩
          have hlk : (l.drop f).take (k - f) ++ [l.getD k 0] = l' := by
            rw [hl', show k + 1 - f = (k - f) + 1 by omega, take_one (l := l.drop f) (by rw [List.length_drop, LEN.out]; omega)]
            congr 2
            simp [List.getD, show f + (k - f) = k by omega]
          have hlen : l'.length = k + 1 - f := by rw [hl', List.length_take, List.length_drop, LEN.out]; omega
          have rd := RL.out.reads.still (Nat.le_refl _) hix.out.2
          have rs := (rd.dropk (k := f) (by omega)).takek (k := k + 1 - f) (by omega)
          have hfit := RL.out.fit
          have hcap := RL.out.cap
          obtain ⟨b, o, rfl, hb, hcc⟩ := rd.at_ (by omega)
          simp only [Option.map_some, Addr.add_lit] at rs
          rw [← hl'] at rs
          have hc := hcc k hlt
          have PT := Lib.hid (had_put (l.getD k 0) hix.out.1 hm hm3)
          rw [hlk] at PT
          obtain ⟨d, hd⟩ : ∃ d, d = (l.getD k 0).toNat := ⟨_, rfl⟩
          rw [← hd] at hc PT
          obtain ⟨q, hq⟩ : ∃ q, q = k + 1 - f := ⟨_, rfl⟩
          rw [← hq] at rs hlen
          have LA := Lib.hid (last_any (some ⟨b, o + f, none⟩) q (cap2 - f) m l' wc _ rs (by omega) (by omega) (by omega))
          have SR := Lib.hid (fun A c (r : Reads wc w.heap.size A (min m q) (lastL m l')) => rsum_any seed A (min m q) c (lastL m l') wc _ r hs (by omega))
          have VL := Lib.hid (fun W (h : Had W g seed m l') => had_value h hm hm3)
          have FL := Lib.hid (fun W (h : Had W g seed m l') => had_full h hm hm3)
          rw [hlen] at FL
          generalize sm seed (lastL m l') = X at *
          obtain ⟨bb, hbb⟩ : ∃ bb, bb = decide (m ≤ q) := ⟨_, rfl⟩
          rw [← hbb] at FL
          have t1 : IntKind.i64.wrap ((k : Int) + 1) = (k : Int) + 1 := by rw [IntKind.wrap_i64]; omega
          have t2 : IntKind.i64.wrap ((k : Int) + 1 - (f : Int)) = (q : Int) := by rw [IntKind.wrap_i64]; omega
          have t3 : decide (m ≤ q) = bb := hbb.symm
          have t12 : ((!bb) == bb) = false := by cases bb <;> rfl
          have t4 : (f : Int) ≤ (k : Int) + 1 := by omega
          have t5 : (k : Int) + 1 ≤ (cap2 : Int) := by omega
          have t6 : ((k : Int) + 1).toNat = k + 1 := by omega
          have t7 : (0 : Int) ≤ (k : Int) + 1 := by omega
          have t8 : ¬ cap2 = f := by omega
          have t9 : k + 1 - f = q := hq.symm
          have t10 : (k : Int) + 1 - (f : Int) = (q : Int) := by omega
          have t11 : f ≤ k + 1 := by omega
          have HQ := Lib.hid hq
          have HL' := Lib.hid hl'
          clear hlk hl' hd hcc rd rs hbb hb hq hlen
          go_wp2_with fail
          refine LA.out.mono ?_
          rintro e w4 ⟨⟨A', c', rfl, r'⟩, rfl⟩
          have R' := Lib.hid r'
          clear r'
          go_wp2_with fail
          refine (SR.out _ _ R'.out).mono ?_
          rintro e w4 ⟨rfl, rfl⟩
          clear t4 t5 t6 t7 t8 t9 t11
          go_wp2_with fail
          refine PT.out.mono ?_
          rintro e w4 ⟨rfl, h4, g4⟩
          have H4 := Lib.hid (And.intro h4 (Still.put hix.out.2 g4 (by rw [HG.out]; exact Nat.le_refl _)))
          clear h4 g4 LA SR PT
          go_wp2_with fail
          refine (VL.out _ H4.out.1).mono ?_
          rintro e w5 ⟨rfl, rfl⟩
          go_wp2_with fail
          refine (FL.out _ H4.out.1).mono ?_
          rintro e w6 ⟨rfl, s6⟩
          have H6 := Lib.hid (And.intro (H4.out.1.still (drewN_some s6)) (H4.out.2.trans (drewN_some s6)))
          clear s6
          have HQ2 := Lib.hid (show (l.drop f).take (k + 1 - f) = l' from HL'.out.symm)
          go_wp2_with fail
          go_roundw
          case rel => exact ⟨f, k + 1, rfl, by go_num, by omega, by omega, by rw [HQ2.out]; exact H6.out.1, H6.out.2⟩
          case measure => simp [intOf]; omega
      · obtain rfl : n = k := by omega
        go_wp2_with fail
        refine (lives_any _).mono ?_
        rintro e w4 ⟨rfl, s4⟩
        have S4 := Lib.hid (hin.out.2.trans s4)
        clear s4
        go_wp2_with fail
        go_ret
        exact ⟨rfl, S4.out⟩
  · have NW := Lib.hid (new_no seed win w hwin)
    by_cases h1 : win < 1
    · go_enter Try.func4, Try.ntmps4
      go_wp2_with fail
      refine C1.out.mono ?_
      rintro e w1 ⟨rfl, rfl⟩
      go_wp2_with fail
      refine NW.out.mono ?_
      rintro e w1 ⟨rfl, rfl⟩
      go_wp2_with fail
      refine (lives_any _).mono ?_
      rintro e w1 ⟨rfl, s1⟩
      go_wp2_with fail
      go_ret
      exact ⟨rfl, s1⟩
    · have h2 : 63 < win := by omega
      go_enter Try.func4, Try.ntmps4
      go_wp2_with fail
      refine C1.out.mono ?_
      rintro e w1 ⟨rfl, rfl⟩
      go_wp2_with fail
      refine NW.out.mono ?_
      rintro e w1 ⟨rfl, rfl⟩
      go_wp2_with fail
      refine (lives_any _).mono ?_
      rintro e w1 ⟨rfl, s1⟩
      go_wp2_with fail
      go_ret
      exact ⟨rfl, s1⟩
end Go.Proofs.Ytaijilmafdoaoaa
