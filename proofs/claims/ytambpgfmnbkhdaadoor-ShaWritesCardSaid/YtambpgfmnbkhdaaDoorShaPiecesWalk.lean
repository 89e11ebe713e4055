/- The walk of ShaPieces: it returns true, and nothing that was there turns. -/
import Derived.Test.YtambpgfmnbkhdaaDoorShaLaws
import Derived.Test.YtambpgfmnbkhdaaDoorRowS
namespace Go.Proofs.YtambpgfmnbkhdaaDoor
open Go.RowKit
set_option linter.unusedVariables false
set_option linter.unusedSimpArgs false

theorem three_reads (w : World) : Reads (w.alloc (.cells #[.int .u8 1, .int .u8 2, .int .u8 3] 5)) (w.heap.size + 1) (some ⟨w.heap.size, 0, none⟩) 3 [1, 2, 3] := const_reads w [1, 2, 3] (0, 0)
theorem Had.tabs {w w' : World} {g : Nat} {l : List UInt8} (h : Had w g l) (T : Tabs w) (gr : w.grownBy w' (some g)) : Tabs w' := by
  obtain ⟨R, hb, _, _⟩ := h
  exact Tabs.grown T hb gr

set_option maxRecDepth 100000 in
set_option maxHeartbeats 3200000 in
theorem shaPieces_walk (A0 : Option Addr) (n0 c0 : Nat) (z0 : List Int) (A1 : Option Addr) (n1 c1 : Nat) (z1 : List Int) (copies : Bool) (w : World) (h0 : RowIn .u8 w A0 n0 c0 z0) (h1 : RowIn .i64 w A1 n1 c1 z1) (T : Tabs w) :
    Calls Tryd.prog 5 #[.slice A0 n0 c0, .slice A1 n1 c1, .bool copies] w fun e w' => e = .returned (.bool true) ∧ Below w.heap.size w w' := by
  obtain ⟨hn1, hz1⟩ := ints_of_row h1
  obtain ⟨n, l, rs0, hn, hcut⟩ := cut_row h0 1000 (by omega)
  have HC := Lib.hid hcut
  have HZ := Lib.hid hz1
  have RL := Lib.hid rs0
  have TT := Lib.hid T
  have eqd : ∀ w : World, (binOp .eql 26 (.agg (bytesV (shSum l)).toArray) (.agg (bytesV (shSum l)).toArray)).run Tryd.prog w = .ok (.bool true) w := fun w => by
    rw [eql_ids w _ _ (shSum_length l) (shSum_length l)]; simp
  obtain ⟨darr, hd⟩ : ∃ d, d = (bytesV (shSum l)).toArray := ⟨_, rfl⟩
  rw [← hd] at eqd
  have HDA := Lib.hid hd
  have EQD := Lib.hid eqd
  clear hcut h0 h1 hz1 T hd eqd
  go_enter Tryd.func5, Tryd.ntmps5
  go_wp2_with fail
  refine HC.out.mono ?_
  rintro e w1 ⟨rfl, rfl⟩
  go_wp2_with fail
  refine (new_any w).mono ?_
  rintro e w1 ⟨g0, rfl, hg0, hd1, s1⟩
  have rs1 := rs0.still (Nat.le_refl _) s1
  clear rs0
  go_wp2_with fail
  go_loopw [7, 8, 9] (fun hv rv i wr => ∃ (k : Nat) (L1 L2 : List UInt8) (Ar : Option Addr) (m cr g : Nat), i = .int .i64 k ∧ k ≤ n1 ∧ k ≤ 40 ∧ Hid (L1 ++ L2 = l) ∧ rv = .slice Ar m cr ∧ RowS wr w.heap.size Ar m cr L2 ∧ m ≤ 1000 ∧ L1.length ≤ 1000 ∧ hv = .pointer (some ⟨g, 0, none⟩) ∧ w.heap.size ≤ g ∧ Had wr g L1 ∧ Still w wr) (fun _ _ i _ => 40 - (intOf i).toNat)
  case atStart => exact ⟨0, [], l, A0, n, c0, g0, rfl, by omega, by omega, rfl, rfl, rs1, hn, by simp, rfl, hg0, hd1, s1⟩
  case round =>
    obtain ⟨k, L1, L2, Ar, m, cr, g, rfl, hk1, hk2, hL, rfl, rs, hm2, hL1, rfl, hg, hd, st⟩ := hrel
    have hfit := rs.fit
    have hcap := rs.cap
    have hz : w.heap.size ≤ wr.heap.size := st.size
    have hlen : L1.length + L2.length = n := by rw [← List.length_append, hL.out]; exact RL.out.reads.1
    have lm : L2.length = m := rs.reads.1
    have TR := TT.out.still st
    by_cases hlt : k < n1 ∧ k < 40
    · obtain ⟨g1, g2⟩ := hlt
      obtain ⟨b, o, y, rfl, hb, hcell⟩ := HZ.out k g1
      have hcell1 : wr.cell? ⟨b, o + k, none⟩ = some (.int .i64 y) := (st.cell (p := ⟨b, o + k, none⟩) hb).trans hcell
      clear hcell
      have HD := Lib.hid hd
      have HLN := Lib.hid hlen
      have HLM := Lib.hid lm
      have HTR := Lib.hid TR
      clear hd hlen lm TR
      go_wp2_with fail
      refine (within_any y 0 m wr (by omega)).mono ?_
      rintro e w2 ⟨⟨q, hq1, hq2, rfl⟩, rfl⟩
      obtain ⟨q, rfl⟩ := Int.eq_ofNat_of_zero_le hq1
      have hqm : q ≤ m := by omega
      have rq := rs.reads.takek hqm
      have W := Lib.hid (write_any g L1 (L2.take q) Ar q cr wr _ HTR.out HD.out rq (by omega) hcap (far_low rq hg) (by have := HLN.out; have := HLM.out; omega))
      clear rq hcell1
      have ST := Lib.hid st
      have RS := Lib.hid rs
      clear st rs
      go_wp2_with fail
      refine W.out.mono ?_
      rintro e w3 ⟨rfl, hd3, gr3⟩
      have st3 := still_grown ST.out gr3 hg
      have hl2 : (L1 ++ L2.take q) ++ L2.drop q = l := by rw [List.append_assoc, List.take_append_drop]; exact hL.out
      have hl3 : (L1 ++ L2.take q).length ≤ 1000 := by
        have := HLN.out
        have := HLM.out
        rw [List.length_append, List.length_take]
        omega
      have rs3 : RowS w3 w.heap.size Ar m cr L2 := ⟨RS.out.reads.grown (far_low RS.out.reads hg) gr3, RS.out.fit, RS.out.cap, RS.out.nil⟩
      have HL2 := Lib.hid hl2
      have HD3 := Lib.hid hd3
      have ST3 := Lib.hid st3
      have T3 := Lib.hid (TT.out.still st3)
      have CP := Lib.hid (copy_any2 g _ w3 hd3)
      have hz3 : w.heap.size ≤ w3.heap.size := st3.size
      clear hl2 hd3 st3 gr3 W hL
      by_cases hck : cr = q
      · have hmq : m = q := by omega
        have RS5 := Lib.hid (rs3.endk (k := q) (by omega))
        clear rs3
        subst hmq
        subst hck
        cases copies
        · go_wp2_with fail
          go_roundw
          case rel => exact ⟨k + 1, _, _, _, _, _, g, by go_num, by omega, by omega, HL2.out, rfl, RS5.out, by omega, hl3, rfl, hg, HD3.out, ST3.out⟩
          case measure => simp [intOf]; omega
        · go_wp2_with fail
          refine CP.out.mono ?_
          rintro e w4 ⟨⟨g', rfl, hg', hd4⟩, s4⟩
          have HO4 := Lib.hid (HD3.out.still s4)
          have HN4 := Lib.hid hd4
          have ST4 := Lib.hid (ST3.out.trans s4)
          have RS6 := Lib.hid (RS5.out.still hz3 s4)
          have hne : g' ≠ g := by have := HD3.out.lt; omega
          have sa := (Still.refl w4).alloc (Nat.le_refl _) (.cells #[.int .u8 1, .int .u8 2, .int .u8 3] 5)
          have W3 := Lib.hid (write_any g _ [1, 2, 3] _ 3 3 _ _ ((T3.out.still s4).still sa) (HO4.out.still sa) (three_reads w4) (Nat.le_refl _) (by omega) (fun ad e _ => by cases e; have := HO4.out.lt; show w4.heap.size ≠ g; omega) (by omega))
          have SA := Lib.hid sa
          clear s4 hd4 sa
          go_wp2_with fail
          refine W3.out.mono ?_
          rintro e w5 ⟨rfl, _, gr5⟩
          have hd5 := (HN4.out.still SA.out).grown gr5 hne
          have st5 := still_grown (ST4.out.trans SA.out) gr5 hg
          have rs6 := RS6.out.still ST4.out.size SA.out
          have rs7 : RowS w5 w.heap.size none 0 0 [] → True := fun _ => trivial
          clear rs7
          have RS7 := Lib.hid (show RowS w5 w.heap.size _ _ _ _ from ⟨rs6.reads.grown (far_low rs6.reads hg) gr5, rs6.fit, rs6.cap, rs6.nil⟩)
          have HD5 := Lib.hid hd5
          have ST5 := Lib.hid st5
          clear hd5 st5 rs6 gr5
          go_wp2_with fail
          go_roundw
          case rel => exact ⟨k + 1, _, _, _, _, _, g', by go_num, by omega, by omega, HL2.out, rfl, RS7.out, by omega, hl3, rfl, Nat.le_trans hz3 hg', HD5.out, ST5.out⟩
          case measure => simp [intOf]; omega
      · have RS5 := Lib.hid (rs3.dropk hqm)
        clear rs3
        cases copies
        · go_wp2_with fail
          go_roundw
          case rel => exact ⟨k + 1, _, _, _, _, _, g, by go_num, by omega, by omega, HL2.out, rfl, RS5.out, by omega, hl3, rfl, hg, HD3.out, ST3.out⟩
          case measure => simp [intOf]; omega
        · go_wp2_with fail
          refine CP.out.mono ?_
          rintro e w4 ⟨⟨g', rfl, hg', hd4⟩, s4⟩
          have HO4 := Lib.hid (HD3.out.still s4)
          have HN4 := Lib.hid hd4
          have ST4 := Lib.hid (ST3.out.trans s4)
          have RS6 := Lib.hid (RS5.out.still hz3 s4)
          have hne : g' ≠ g := by have := HD3.out.lt; omega
          have sa := (Still.refl w4).alloc (Nat.le_refl _) (.cells #[.int .u8 1, .int .u8 2, .int .u8 3] 5)
          have W3 := Lib.hid (write_any g _ [1, 2, 3] _ 3 3 _ _ ((T3.out.still s4).still sa) (HO4.out.still sa) (three_reads w4) (Nat.le_refl _) (by omega) (fun ad e _ => by cases e; have := HO4.out.lt; show w4.heap.size ≠ g; omega) (by omega))
          have SA := Lib.hid sa
          clear s4 hd4 sa
          go_wp2_with fail
          refine W3.out.mono ?_
          rintro e w5 ⟨rfl, _, gr5⟩
          have hd5 := (HN4.out.still SA.out).grown gr5 hne
          have st5 := still_grown (ST4.out.trans SA.out) gr5 hg
          have rs6 := RS6.out.still ST4.out.size SA.out
          have RS7 := Lib.hid (show RowS w5 w.heap.size _ _ _ _ from ⟨rs6.reads.grown (far_low rs6.reads hg) gr5, rs6.fit, rs6.cap, rs6.nil⟩)
          have HD5 := Lib.hid hd5
          have ST5 := Lib.hid st5
          clear hd5 st5 rs6 gr5
          go_wp2_with fail
          go_roundw
          case rel => exact ⟨k + 1, _, _, _, _, _, g', by go_num, by omega, by omega, HL2.out, rfl, RS7.out, by omega, hl3, rfl, Nat.le_trans hz3 hg', HD5.out, ST5.out⟩
          case measure => simp [intOf]; omega
    · have key : (k < n1 ∧ decide ((k : Int) < 40) = false) ∨ ¬ k < n1 := by
        by_cases d1 : k < n1
        · exact .inl ⟨d1, by simp; omega⟩
        · exact .inr d1
      have W := Lib.hid (write_any g L1 L2 Ar m cr wr _ TR hd rs.reads hfit hcap (far_low rs.reads hg) (by omega))
      have ST := Lib.hid st
      have HLN := Lib.hid (show l.length = n from RL.out.reads.1)
      clear hlt hd rs st hlen lm TR
      rcases key with ⟨d1, d2⟩ | d1
      all_goals
        go_wp2_with fail
        refine W.out.mono ?_
        rintro e w2 ⟨rfl, hd2, gr2⟩
        rw [hL.out] at hd2
        have st2 := still_grown ST.out gr2 hg
        have M := Lib.hid (msum_any g l w2 (TT.out.still st2) hd2 (by have := HLN.out; omega))
        rw [← HDA.out] at M
        have HD2 := Lib.hid hd2
        have ST2 := Lib.hid st2
        clear hd2 gr2 st2 W ST
        go_wp2_with fail
        refine M.out.mono ?_
        rintro e w3 ⟨rfl, s3⟩
        have hd3 := HD2.out.still s3
        have st3 := ST2.out.trans s3
        have rl3 := RL.out.still (Nat.le_refl _) st3
        have Q := Lib.hid (sum_any A0 n c0 l w3 _ (TT.out.still st3) rl3.reads st3.size (by omega) rl3.fit rl3.cap)
        rw [← HDA.out] at Q
        have HD3 := Lib.hid hd3
        have ST3 := Lib.hid st3
        have eqd := EQD.out
        clear hd3 st3 rl3 s3 M
        go_wp2_with fail
        refine Q.out.mono ?_
        rintro e w4 ⟨rfl, s4⟩
        have hd4 := HD3.out.still s4
        have st4 := ST3.out.trans s4
        have LN := Lib.hid (len_any g l w4 hd4)
        rw [HLN.out] at LN
        have ST4 := Lib.hid st4
        clear s4 Q hd4 st4
        go_wp2_with fail
        refine LN.out.mono ?_
        rintro e w5 ⟨rfl, rfl⟩
        go_wp2_with fail
        refine (lives_any w4 (TT.out.still ST4.out)).mono ?_
        rintro e w7 ⟨rfl, s7⟩
        go_wp2_with fail
        go_ret
        exact ⟨rfl, ST4.out.trans s7⟩
end Go.Proofs.YtambpgfmnbkhdaaDoor
