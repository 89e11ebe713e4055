/- The walk of XxhPieces: it returns true, and nothing that was there turns. -/
import Derived.Test.YtbnbpfbgoicogaaXxhLives
import Derived.Test.YtbnbpfbgoicogaaRowS
namespace Go.Proofs.Ytbnbpfbgoicogaa
open Go.RowKit
set_option linter.unusedVariables false
set_option linter.unusedSimpArgs false

set_option maxRecDepth 100000 in
set_option maxHeartbeats 3200000 in
theorem xxhPieces_walk (A0 : Option Addr) (n0 c0 : Nat) (z0 : List Int) (s : Int) (A1 : Option Addr) (n1 c1 : Nat) (z1 : List Int) (asks : Bool) (w : World) (h0 : RowIn .u8 w A0 n0 c0 z0) (hs0 : 0 ≤ s) (hs1 : s < 18446744073709551616) (h1 : RowIn .i64 w A1 n1 c1 z1) :
    Calls Try.prog 5 #[.slice A0 n0 c0, .int .u64 s, .slice A1 n1 c1, .bool asks] w fun e w' => e = .returned (.bool true) ∧ Below w.heap.size w w' := by
  obtain ⟨s, rfl⟩ := Int.eq_ofNat_of_zero_le hs0
  have hs : s < m64 := by unfold m64; omega
  obtain ⟨hn1, hz1⟩ := ints_of_row h1
  obtain ⟨n, l, rs0, hn, hcut⟩ := cut_row h0 1500 (by omega)
  have HC := Lib.hid hcut
  have HZ := Lib.hid hz1
  have RL := Lib.hid rs0
  clear hcut h0 h1 hz1 hs0 hs1
  go_enter Try.func5, Try.ntmps5
  go_wp2_with fail
  refine HC.out.mono ?_
  rintro e w1 ⟨rfl, rfl⟩
  go_wp2_with fail
  refine (new_any s w hs).mono ?_
  rintro e w1 ⟨rfl, hd1, s1⟩
  have rs1 := rs0.still (Nat.le_refl _) s1
  clear rs0
  go_wp2_with fail
  go_loopw [10, 11] (fun rv i wr => ∃ (k : Nat) (L1 L2 : List UInt8) (Ar : Option Addr) (m cr : Nat), i = .int .i64 k ∧ k ≤ n1 ∧ k ≤ 60 ∧ Hid (L1 ++ L2 = l) ∧ rv = .slice Ar m cr ∧ RowS wr w.heap.size Ar m cr L2 ∧ m ≤ 1500 ∧ L1.length ≤ 1500 ∧ Had wr w.heap.size s L1 ∧ Still w wr) (fun _ i _ => 60 - (intOf i).toNat)
  case atStart => exact ⟨0, [], l, A0, n, c0, rfl, by omega, by omega, rfl, rfl, rs1, hn, by simp, hd1, s1⟩
  case round =>
    obtain ⟨k, L1, L2, Ar, m, cr, rfl, hk1, hk2, hL, rfl, rs, hm2, hL1, hd, st⟩ := hrel
    have hfit := rs.fit
    have hcap := rs.cap
    have hz : w.heap.size ≤ wr.heap.size := st.size
    have hlen : L1.length + L2.length = n := by rw [← List.length_append, hL.out]; exact RL.out.reads.1
    have lm : L2.length = m := rs.reads.1
    by_cases hlt : k < n1 ∧ k < 60
    · obtain ⟨g1, g2⟩ := hlt
      obtain ⟨b, o, y, rfl, hb, hcell⟩ := HZ.out k g1
      have hcell1 : wr.cell? ⟨b, o + k, none⟩ = some (.int .i64 y) := (st.cell (p := ⟨b, o + k, none⟩) hb).trans hcell
      clear hcell
      have HD := Lib.hid hd
      have HLN := Lib.hid hlen
      have HLM := Lib.hid lm
      clear hd hlen lm
      go_wp2_with fail
      refine (within_any y 0 m wr (by omega)).mono ?_
      rintro e w2 ⟨⟨q, hq1, hq2, rfl⟩, rfl⟩
      obtain ⟨q, rfl⟩ := Int.eq_ofNat_of_zero_le hq1
      have hqm : q ≤ m := by omega
      have rq := rs.reads.takek hqm
      have W := Lib.hid (write_any w.heap.size s L1 (L2.take q) Ar q cr wr _ HD.out rq (by omega) hcap (far_low rq (Nat.le_refl _)) (fun e => (rs.nil e).2) (by have := HLN.out; have := HLM.out; omega))
      clear rq hcell1
      have ST := Lib.hid st
      have RS := Lib.hid rs
      clear st rs
      go_wp2_with fail
      refine W.out.mono ?_
      rintro e w3 ⟨rfl, hd3, gr3⟩
      have st3 := still_grown ST.out gr3 (Nat.le_refl _)
      have hl2 : (L1 ++ L2.take q) ++ L2.drop q = l := by rw [List.append_assoc, List.take_append_drop]; exact hL.out
      have hl3 : (L1 ++ L2.take q).length ≤ 1500 := by
        have := HLN.out
        have := HLM.out
        rw [List.length_append, List.length_take]
        omega
      have rs3 : RowS w3 w.heap.size Ar m cr L2 := ⟨RS.out.reads.grown (far_low RS.out.reads (Nat.le_refl _)) gr3, RS.out.fit, RS.out.cap, RS.out.nil⟩
      have HL2 := Lib.hid hl2
      have HD3 := Lib.hid hd3
      have ST3 := Lib.hid st3
      have M := Lib.hid (msum_any w.heap.size s _ w3 hd3 hs)
      have hz3 : w.heap.size ≤ w3.heap.size := st3.size
      clear hl2 hd3 st3 gr3 W hL
      by_cases hck : cr = q
      · have hmq : m = q := by omega
        have RS5 := Lib.hid (rs3.endk (k := q) (by omega))
        clear rs3
        subst hmq
        subst hck
        cases asks
        · go_wp2_with fail
          go_roundw
          case rel => exact ⟨k + 1, _, _, _, _, _, by go_num, by omega, by omega, HL2.out, rfl, RS5.out, by omega, hl3, HD3.out, ST3.out⟩
          case measure => simp [intOf]; omega
        · go_wp2_with fail
          refine M.out.mono ?_
          rintro e w4 ⟨rfl, s4⟩
          have HD4 := Lib.hid (HD3.out.still s4)
          have ST4 := Lib.hid (ST3.out.trans s4)
          have RS6 := Lib.hid (RS5.out.still hz3 s4)
          clear s4
          go_wp2_with fail
          go_roundw
          case rel => exact ⟨k + 1, _, _, _, _, _, by go_num, by omega, by omega, HL2.out, rfl, RS6.out, by omega, hl3, HD4.out, ST4.out⟩
          case measure => simp [intOf]; omega
      · have RS5 := Lib.hid (rs3.dropk hqm)
        clear rs3
        cases asks
        · go_wp2_with fail
          go_roundw
          case rel => exact ⟨k + 1, _, _, _, _, _, by go_num, by omega, by omega, HL2.out, rfl, RS5.out, by omega, hl3, HD3.out, ST3.out⟩
          case measure => simp [intOf]; omega
        · go_wp2_with fail
          refine M.out.mono ?_
          rintro e w4 ⟨rfl, s4⟩
          have HD4 := Lib.hid (HD3.out.still s4)
          have ST4 := Lib.hid (ST3.out.trans s4)
          have RS6 := Lib.hid (RS5.out.still hz3 s4)
          clear s4
          go_wp2_with fail
          go_roundw
          case rel => exact ⟨k + 1, _, _, _, _, _, by go_num, by omega, by omega, HL2.out, rfl, RS6.out, by omega, hl3, HD4.out, ST4.out⟩
          case measure => simp [intOf]; omega
    · have key : (k < n1 ∧ decide ((k : Int) < 60) = false) ∨ ¬ k < n1 := by
        by_cases d1 : k < n1
        · exact .inl ⟨d1, by simp; omega⟩
        · exact .inr d1
      have W := Lib.hid (write_any w.heap.size s L1 L2 Ar m cr wr _ hd rs.reads hfit hcap (far_low rs.reads (Nat.le_refl _)) (fun e => (rs.nil e).2) (by omega))
      have ST := Lib.hid st
      clear hlt hd rs st hlen lm
      rcases key with ⟨d1, d2⟩ | d1
      all_goals
        go_wp2_with fail
        refine W.out.mono ?_
        rintro e w2 ⟨rfl, hd2, gr2⟩
        rw [hL.out] at hd2
        have st2 := still_grown ST.out gr2 (Nat.le_refl _)
        have M := Lib.hid (msum_any w.heap.size s l w2 hd2 hs)
        have HD2 := Lib.hid hd2
        have ST2 := Lib.hid st2
        clear hd2 gr2 st2 W ST
        go_wp2_with fail
        refine M.out.mono ?_
        rintro e w3 ⟨rfl, s3⟩
        have hd3 := HD2.out.still s3
        have st3 := ST2.out.trans s3
        have rl3 := RL.out.still (Nat.le_refl _) st3
        have Q := Lib.hid (sum_any A0 n c0 l s w3 _ rl3.reads st3.size (by omega) rl3.fit rl3.cap (fun e => (rl3.nil e).2) hs)
        have HD3 := Lib.hid hd3
        have ST3 := Lib.hid st3
        clear hd3 st3 rl3 s3 M
        obtain ⟨X, hX⟩ : ∃ X, X = xxSum l s := ⟨_, rfl⟩
        rw [← hX] at Q ⊢
        have HX := Lib.hid hX
        clear hX
        go_wp2_with fail
        refine Q.out.mono ?_
        rintro e w4 ⟨rfl, s4⟩
        have hd4 := HD3.out.still s4
        have st4 := ST3.out.trans s4
        have M4 := Lib.hid (msum_any w.heap.size s l w4 hd4 hs)
        rw [← HX.out] at M4
        have HD4 := Lib.hid hd4
        clear s4 Q hd4
        go_wp2_with fail
        refine M4.out.mono ?_
        rintro e w5 ⟨rfl, s5⟩
        have hd5 := HD4.out.still s5
        have st5 := st4.trans s5
        have M5 := Lib.hid (msum_any w.heap.size s l w5 hd5 hs)
        rw [← HX.out] at M5
        clear s5 hd5 st4 M4
        go_wp2_with fail
        refine M5.out.mono ?_
        rintro e w6 ⟨rfl, s6⟩
        have st6 := st5.trans s6
        clear s6 M5 st5
        go_wp2_with fail
        refine (lives_any w6).mono ?_
        rintro e w7 ⟨rfl, s7⟩
        go_wp2_with fail
        go_ret
        exact ⟨rfl, st6.trans s7⟩
end Go.Proofs.Ytbnbpfbgoicogaa
