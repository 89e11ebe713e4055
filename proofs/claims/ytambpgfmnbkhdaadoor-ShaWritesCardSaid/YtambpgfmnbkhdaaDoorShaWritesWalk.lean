/- The walk of ShaWrites: it returns true, and nothing that was there turns. -/
import Derived.Test.YtambpgfmnbkhdaaDoorShaPiecesWalk
import Derived.Test.YtambpgfmnbkhdaaDoorRowsIn
import Derived.Test.YtambpgfmnbkhdaaDoorAdds
namespace Go.Proofs.YtambpgfmnbkhdaaDoor
open Go.RowKit
set_option linter.unusedVariables false
set_option linter.unusedSimpArgs false

theorem u8_next (d : Nat) : IntKind.u8.wrap ((d : Int) + 1) = (((UInt8.ofNat (d + 1)).toNat : Nat) : Int) := by
  rw [IntKind.wrap_u8]; simp
theorem neq_ids (w : World) (xs : List UInt8) (hx : xs.length = 32) :
    (binOp .neq 26 (.agg (bytesV xs).toArray) (.agg (bytesV xs).toArray)).run Tryd.prog w = .ok (.bool false) w := by
  rw [run_neq_struct, show (10000 : Nat) = 9998 + 2 from rfl, show (Op.equalIn (9998 + 2) 26 (.agg (bytesV xs).toArray) (.agg (bytesV xs).toArray)).run Tryd.prog w = .ok (xs == xs) w from run_equalIn_bytes w 9998 26 5 32 under32 (by kernel_rfl) sizeByteRun xs xs hx hx]
  simp

set_option maxRecDepth 100000 in
set_option maxHeartbeats 3200000 in
theorem shaWrites_walk (A0 : Option Addr) (n0 c0 : Nat) (at_ : Int) (A2 : Option Addr) (n2 c2 : Nat) (z2 : List Int) (w : World) (h0 : RowsIn .u8 w A0 n0) (h2 : RowIn .u8 w A2 n2 c2 z2) (T : Tabs w) :
    Calls Tryd.prog 4 #[.slice A0 n0 c0, .int .i64 at_, .slice A2 n2 c2] w fun e w' => e = .returned (.bool true) ∧ Below w.heap.size w w' := by
  obtain ⟨hn1, hz1⟩ := h0
  obtain ⟨l20, r20, hc20, hm20, hA20⟩ := reads_of_row h2
  obtain ⟨no, hno⟩ : ∃ no, no = min n2 70 := ⟨_, rfl⟩
  obtain ⟨lo2, hlo2⟩ : ∃ l, l = l20.take 70 := ⟨_, rfl⟩
  have rs2 : RowS w w.heap.size A2 no c2 lo2 := by
    rw [hno, hlo2]
    exact ⟨r20.take 70, by omega, hm20, fun e => ⟨by have := (hA20 e).1; omega, (hA20 e).2⟩⟩
  have HC2 := Lib.hid (fun (w1 : World) (s : Still w w1) => cut_any A2 n2 c2 70 l20 w1 _ (r20.still (Nat.le_refl _) s) hc20 hm20 (by omega))
  rw [← hno] at HC2
  have HZ := Lib.hid hz1
  have TT := Lib.hid T
  have RS2 := Lib.hid rs2
  have HL2 := Lib.hid rs2.reads.1
  have hno70 : no ≤ 70 := by omega
  clear hz1 T r20 hc20 hm20 hA20 h2 hno hlo2 rs2
  go_enter Tryd.func4, Tryd.ntmps4
  go_wp2_with fail
  refine (new_any w).mono ?_
  rintro e w3 ⟨g, rfl, hg, hd3, st3⟩
  have CUT := Lib.hid (HC2.out w3 st3)
  go_wp2_with fail
  refine CUT.out.mono ?_
  rintro e w4 ⟨rfl, rfl⟩
  clear CUT HC2
  go_wp2_with fail
  obtain ⟨base, hbase⟩ : ∃ b, b = g + 1 := ⟨_, rfl⟩
  have hb3 : base ≤ w3.heap.size := by have := hd3.lt; omega
  have hbase1 : g < base := by omega
  have HBB := Lib.hid (show ∀ x, g < x → base ≤ x from fun x h => by omega)
  have hbw : w.heap.size ≤ base := by omega
  clear hbase
  go_loopw [8, 9] (fun av i wr => ∃ (k m : Nat) (all : List UInt8), i = .int .i64 k ∧ k ≤ n0 ∧ k ≤ 8 ∧ m ≤ 150 * k ∧ wr.ownsRow base 5 1 av m (bytesV all) ∧ Had wr g all ∧ Still w wr) (fun _ i _ => 8 - (intOf i).toNat)
  case atStart => exact ⟨0, 0, [], rfl, by omega, by omega, by omega, World.ownsRow_nil _ _ _ _, hd3, st3⟩
  case round =>
    obtain ⟨k, m, all, rfl, hk1, hk2, hm, own, hd, st⟩ := hrel
    have hz : w.heap.size ≤ wr.heap.size := st.size
    have hgl := hd.lt
    have hbw' : base ≤ wr.heap.size := HBB.out _ hgl
    have hall : all.length = m := by have := own.1; rw [bytesV_length] at this; omega
    by_cases hlt : k < n0 ∧ k < 8
    · obtain ⟨g1, g2⟩ := hlt
      obtain ⟨b, o, A, L, C, zs, rfl, hb, hcell, hrow⟩ := HZ.out k g1
      have hcell1 : wr.cell? ⟨b, o + k, none⟩ = some (.slice A L C) := (st.cell (p := ⟨b, o + k, none⟩) hb).trans hcell
      obtain ⟨l0, rs0⟩ := rowsIn_row hrow st
      obtain ⟨n, l, rs, hn, hcut⟩ := cut_rowS rs0 150 (by omega)
      have HC := Lib.hid hcut
      have CP := Lib.hid (copy_any A n C l wr _ rs.reads (by omega) rs.nil)
      have OW := Lib.hid own
      have HD := Lib.hid hd
      have ST := Lib.hid st
      have HAL := Lib.hid hall
      clear hcell hrow rs0 hcut own hd st hall
      go_wp2_with fail
      refine HC.out.mono ?_
      rintro e w4 ⟨rfl, rfl⟩
      go_wp2_with fail
      refine CP.out.mono ?_
      rintro e w4 ⟨⟨v4, rfl, own4⟩, s4⟩
      obtain ⟨A4, c4, rfl, f4, m4, nl4⟩ := own_form own4
      have OW4 := Lib.hid own4
      have OA4 := Lib.hid (own_still OW.out s4)
      have HD4 := Lib.hid (HD.out.still s4)
      have ST4 := Lib.hid (ST.out.trans s4)
      have Z4 := Lib.hid s4.size
      have HLOW := Lib.hid (show ∀ j, u8.ownBlock = some j → base ≤ j ∧ j < wr.heap.size from OW.out.lt)
      have HHI := Lib.hid (show ∀ j, (Value.slice A4 n c4).ownBlock = some j → wr.heap.size ≤ j ∧ j < w4.heap.size from OW4.out.lt)
      obtain ⟨A8, c8, rfl, f8, m8, nl8⟩ := own_form OA4.out
      clear s4 own4 CP HC rs hcell1 OW HD ST
      go_upto_if 34 with fail
      go_cut [11] (fun s11 wx => Still w4 wx)
      case first =>
        by_cases hat : (k : Int) = at_
        · have hat' : ((k : Int) == at_) = true := by simpa using hat
          have CQ := Lib.hid (copy_any2 g all w4 HD4.out)
          subst hat
          go_wp2_with fail
          refine CQ.out.mono ?_
          rintro e w5 ⟨⟨g', rfl, hg', hd5⟩, s5⟩
          have rs5 := (RS2.out.still (Nat.le_refl _) ST4.out).still ST4.out.size s5
          have W5 := Lib.hid (write_any g' all lo2 A2 no c2 w5 _ (TT.out.still (ST4.out.trans s5)) hd5 rs5.reads rs5.fit rs5.cap (far_low rs5.reads (Nat.le_trans ST4.out.size hg')) (by have := HAL.out; omega))
          have S5 := Lib.hid s5
          clear hd5 rs5 s5
          go_wp2_with fail
          refine W5.out.mono ?_
          rintro e w6 ⟨rfl, hd6, gr6⟩
          have s6 : Still w4 w6 := still_grown S5.out gr6 hg'
          have M6 := Lib.hid (msum_any g' (all ++ lo2) w6 (TT.out.still (ST4.out.trans s6)) hd6 (by have := HAL.out; have := HL2.out; rw [List.length_append]; omega))
          obtain ⟨D, hD⟩ : ∃ D, D = (bytesV (shSum (all ++ lo2))).toArray := ⟨_, rfl⟩
          have nqd := fun w => neq_ids w (shSum (all ++ lo2)) (shSum_length _)
          rw [← hD] at M6
          simp only [← hD] at nqd
          have HDD := Lib.hid hD
          have HD6 := Lib.hid hd6
          have S6 := Lib.hid s6
          clear hD hd6 s6 gr6
          go_wp2_with fail
          refine M6.out.mono ?_
          rintro e w7 ⟨rfl, s7⟩
          have S7 := Lib.hid (S6.out.trans s7)
          have HD7 := Lib.hid (HD6.out.still s7)
          have oa7 := own_still (own_still OA4.out S6.out) s7
          have CP7 := Lib.hid (copy_any A8 m c8 all w7 _ (Reads.of_own oa7) (by omega) nl8)
          clear s7 oa7
          go_wp2_with fail
          refine CP7.out.mono ?_
          rintro e w8 ⟨⟨v8, rfl, own8⟩, s8⟩
          have rs8 := (RS2.out.still (Nat.le_refl _) ST4.out).still ST4.out.size (S7.out.trans s8)
          have S8 := Lib.hid (S7.out.trans s8)
          have HD8 := Lib.hid (HD7.out.still s8)
          have z78 := s8.size
          have O8 := Lib.hid own8
          clear s8 own8
          go_wp2_with (at_builtin; go_must (refine wpList_adds _ rfl _ _ rfl w7.heap.size _ m all rfl O8.out _ no c2 _ lo2 rfl rs8.reads (fun e => (rs8.nil e).2) ?c1 ?c2 ?_))
          case c1 => omega
          case c2 => exact z78
          intro v9 w9 own9 gr9 _
          have s9 : Still w4 w9 := S8.out.grown gr9 S8.out.size (fun j hj => by have := (O8.out.lt j hj).1; have := S7.out.size; omega)
          have hd9 : Had w9 g' (all ++ lo2) := HD8.out.keepb (gr9.block _ HD8.out.lt (fun e => by have := (O8.out.lt _ e.symm).1; have := HD7.out.lt; omega))
          obtain ⟨A9, c9, rfl, f9, m9, nl9⟩ := own_form own9
          have q9 := Reads.of_own own9
          have R9 := Lib.hid (rsum_any A9 (m + no) c9 (all ++ lo2) w9 _ q9 (Nat.le_refl _) (by omega) nl9)
          rw [← HDD.out] at R9
          have S9 := Lib.hid s9
          have HD9 := Lib.hid hd9
          clear s9 hd9 own9 gr9 q9 rs8
          go_wp2_with fail
          refine R9.out.mono ?_
          rintro e w10 ⟨rfl, s10⟩
          have LN := Lib.hid (len_any g' (all ++ lo2) w10 (HD9.out.still s10))
          have hln : (all ++ lo2).length = m + no := by rw [List.length_append, HAL.out, HL2.out]
          rw [hln] at LN
          have eln : (m : Int) + (no : Int) = ((m + no : Nat) : Int) := by simp
          have eln2 : IntKind.i64.wrap ((m + no : Nat) : Int) = ((m + no : Nat) : Int) := by rw [IntKind.wrap_i64]; omega
          have S10 := Lib.hid (S9.out.trans s10)
          clear s10 hln
          generalize m + no = mno at *
          go_wp2_with fail
          refine LN.out.mono ?_
          rintro e w11 ⟨rfl, rfl⟩
          go_wp2_with fail
          go_meet
          case rel => exact S10.out
        · have hat' : ((k : Int) == at_) = false := by simpa using hat
          go_wp2_with fail
          go_meet
          case rel => exact Still.refl _
      case rest =>
        have sx : Still w4 wc := hcut
        have own4 := own_still OW4.out sx
        have oa4 := own_still OA4.out sx
        have hd4 := HD4.out.still sx
        have st4 := ST4.out.trans sx
        have q4 := Reads.of_own own4
        have zx := sx.size
        have W := Lib.hid (write_any g all l A4 n c4 wc _ (TT.out.still st4) hd4 q4 f4 m4 (far_own own4 (by omega)) (by have := HAL.out; omega))
        have OWX := Lib.hid own4
        have OAX := Lib.hid oa4
        have STX := Lib.hid st4
        clear own4 oa4 hd4 st4 q4 sx hcut
        go_wp2_with fail
        refine W.out.mono ?_
        rintro e w5 ⟨rfl, hd5, gr5⟩
        have st5 := still_grown STX.out gr5 hg
        have own5 := OWX.out.kept gr5 (.inr (fun e => by have := HHI.out _ e; omega))
        have all5 := OAX.out.kept gr5 (.inr (fun e => by have := HLOW.out _ e; omega))
        have q5 := Reads.of_own own5
        have hz5 : wc.heap.size ≤ w5.heap.size := gr5.size
        have OW5 := Lib.hid own5
        have OA5 := Lib.hid all5
        have Q5 := Lib.hid q5
        have HD5 := Lib.hid hd5
        have ST5 := Lib.hid st5
        clear own5 all5 q5 hd5 st5 gr5 W OWX OAX STX
        go_wp2_with (at_builtin; go_must (refine wpList_adds_at _ rfl _ _ rfl base _ m all rfl OA5.out _ n c4 _ l rfl Q5.out (fun e => (nl4 e).2) ?c1 ?c2 ?_))
        case c1 => omega
        case c2 => have := Z4.out; omega
        intro v6 w6 own6 gr6 loc6
        have hne6 : ∀ j, (Value.slice A4 n c4).ownBlock = some j → v6.ownBlock ≠ some j := by
          intro j hj e
          have h1 := HHI.out j hj
          rcases loc6 with h | h
          · rw [h] at e
            have := HLOW.out j e
            omega
          · rw [h] at e
            cases e
            omega
        have hd6 : Had w6 g (all ++ l) := HD5.out.keepb (gr6.block _ HD5.out.lt (fun e => by have := HLOW.out _ e.symm; omega))
        have st6 : Still w w6 := ST5.out.grown gr6 ST5.out.size (fun j hj => by have := HLOW.out _ hj; omega)
        have ob6 := OW5.out.kept gr6 (by
          rcases hv : (Value.slice A4 n c4).ownBlock with _ | j
          · exact .inl rfl
          · refine .inr (fun e => ?_)
            have h1 := HHI.out j hv
            have h2 := HLOW.out j e.symm
            omega)
        have hsz6 : w5.heap.size ≤ w6.heap.size := gr6.size
        have HN6 := Lib.hid hne6
        have HD6 := Lib.hid hd6
        have ST6 := Lib.hid st6
        have OB6 := Lib.hid ob6
        have OA6 := Lib.hid own6
        have LOG := Lib.hid (show w.heap.size ≤ wr.heap.size ∧ g < wr.heap.size ∧ base ≤ wr.heap.size from ⟨hz, hgl, hbw'⟩)
        clear hne6 hd6 st6 ob6 own6 gr6 loc6 OW5 OA5 Q5 HD5 ST5 HLOW HHI hz hgl hbw'
        generalize wr.heap.size = lo at *
        go_wp2_with fail
        go_loopw [12] (fun jv wr => ∃ (j : Nat) (bl : List UInt8), jv = .int .i64 j ∧ j ≤ n ∧ Hid (wr.ownsRow lo 5 1 (.slice A4 n c4) n (bytesV bl) ∧ wr.ownsRow base 5 1 v6 (m + n) (bytesV (all ++ l)) ∧ Had wr g (all ++ l) ∧ Still w wr)) (fun jv _ => n - (intOf jv).toNat)
        case atStart => exact ⟨0, l, rfl, by omega, OB6.out, OA6.out, HD6.out, ST6.out⟩
        case round =>
          obtain ⟨j, bl, rfl, hj, hin⟩ := hrel
          by_cases hjn : j < n
          · have own9 := hin.out.1
            have hbl : bl.length = n := by have := own9.1; rw [bytesV_length] at this; omega
            obtain ⟨g4, rfl⟩ : ∃ g4, A4 = some ⟨g4, 0, none⟩ := by
              rcases own9.2 with ⟨_, h0⟩ | ⟨b4, cap, cur, hv, _⟩
              · omega
              · injection hv with hv1
                exact ⟨b4, hv1⟩
            have cj : wr.cell? ⟨g4, j, none⟩ = some (.int .u8 ((bl.getD j 0).toNat : Int)) := by
              rw [own9.cellAt j (by omega), bytesV_get bl j (by omega)]
            have fj := own9.frozenAt j
            have un := u8_next (bl.getD j 0).toNat
            have o2 := (own9.stored j (.int .u8 ((UInt8.ofNat ((bl.getD j 0).toNat + 1)).toNat : Int))).1
            rw [bytesV_set] at o2
            have gs := grownBy_set wr g4 j (.int .u8 ((UInt8.ofNat ((bl.getD j 0).toNat + 1)).toNat : Int))
            have a2 := hin.out.2.1.kept gs (.inr (HN6.out g4 rfl))
            have hd2 := hin.out.2.2.1.grown gs (fun e => by have := (own9.lt g4 rfl).1; have := LOG.out; omega)
            have s2 := still_grown hin.out.2.2.2 gs (by have := (own9.lt g4 rfl).1; have := LOG.out; omega)
            have z1 : (0 : Int) ≤ (j : Int) := by omega
            have z2 : (j : Int) < (n : Int) := by omega
            generalize (UInt8.ofNat ((bl.getD j 0).toNat + 1)) = y at *
            generalize (bl.getD j 0).toNat = d at *
            generalize y.toNat = yy at *
            have NXT := Lib.hid (show ∃ bl', (wr.setCell ⟨g4, j, none⟩ (.int .u8 (yy : Int))).ownsRow lo 5 1 (.slice (some ⟨g4, 0, none⟩) n c4) n (bytesV bl') ∧ _ ∧ _ ∧ _ from ⟨_, o2, a2, hd2, s2⟩)
            clear o2 a2 hd2 s2 gs own9 hin hbl
            go_wp2_with fail
            go_roundw
            case rel =>
              obtain ⟨bl', h1, h2, h3, h4⟩ := NXT.out
              exact ⟨j + 1, bl', by go_num, hjn, h1, h2, h3, h4⟩
            case measure => simp [intOf]; omega
          · obtain rfl : j = n := by omega
            obtain ⟨A6, c6, rfl, f6, m6, nl6⟩ := own_form hin.out.2.1
            have q6 := Reads.of_own hin.out.2.1
            have hal2 : (all ++ l).length = m + j := by have := q6.1; exact this
            have M := Lib.hid (msum_any g (all ++ l) wr (TT.out.still hin.out.2.2.2) hin.out.2.2.1 (by omega))
            have HIN := hin
            obtain ⟨D, hD⟩ : ∃ D, D = (bytesV (shSum (all ++ l))).toArray := ⟨_, rfl⟩
            have nqd := fun w => neq_ids w (shSum (all ++ l)) (shSum_length _)
            rw [← hD] at M
            simp only [← hD] at nqd
            have HDD := Lib.hid hD
            have HAL2 := Lib.hid hal2
            have Q6 := Lib.hid q6
            clear hin q6 hD hal2
            go_wp2_with fail
            refine M.out.mono ?_
            rintro e w7 ⟨rfl, s7⟩
            have q7 := Q6.out.still (Nat.le_refl _) s7
            have R := Lib.hid (rsum_any A6 (m + j) c6 (all ++ l) w7 _ q7 s7.size (by omega) nl6)
            rw [← HDD.out] at R
            have oa7 := own_still HIN.out.2.1 s7
            have hd7 := HIN.out.2.2.1.still s7
            have st7 := HIN.out.2.2.2.trans s7
            have OA7 := Lib.hid oa7
            have HD7 := Lib.hid hd7
            have ST7 := Lib.hid st7
            clear q7 s7 oa7 hd7 st7 M
            go_wp2_with fail
            refine R.out.mono ?_
            rintro e w8 ⟨rfl, s8⟩
            have OA8 := Lib.hid (own_still OA7.out s8)
            have HD8 := Lib.hid (HD7.out.still s8)
            have ST8 := Lib.hid (ST7.out.trans s8)
            have LN := Lib.hid (len_any g (all ++ l) w8 HD8.out)
            rw [HAL2.out] at LN
            clear s8 R
            go_wp2_with fail
            refine LN.out.mono ?_
            rintro e w9 ⟨rfl, rfl⟩
            go_wp2_with fail
            go_roundw
            case rel => exact ⟨k + 1, m + j, all ++ l, by go_num, by omega, by omega, by omega, OA8.out, HD8.out, ST8.out⟩
            case measure => simp [intOf]; omega
    · have key : (k < n0 ∧ decide ((k : Int) < 8) = false) ∨ ¬ k < n0 := by
        by_cases d1 : k < n0
        · exact .inl ⟨d1, by simp; omega⟩
        · exact .inr d1
      have LV := Lib.hid (lives_any wr (TT.out.still st))
      have ST := Lib.hid st
      clear hlt own hd st hall
      rcases key with ⟨d1, d2⟩ | d1
      all_goals
        go_wp2_with fail
        refine LV.out.mono ?_
        rintro e w2 ⟨rfl, s2⟩
        go_wp2_with fail
        go_ret
        exact ⟨rfl, ST.out.trans s2⟩
end Go.Proofs.YtambpgfmnbkhdaaDoor
