/- The walk of XxhWrites: it returns true, and nothing that was there turns. -/
import Derived.Test.YtbnbpfbgoicogaaXxhLives
import Derived.Test.YtbnbpfbgoicogaaRowsIn
import Derived.Test.YtbnbpfbgoicogaaAdds
namespace Go.Proofs.Ytbnbpfbgoicogaa
open Go.RowKit
set_option linter.unusedVariables false
set_option linter.unusedSimpArgs false

theorem own_far {w : World} {base g n : Nat} {A : Option Addr} {c : Nat} {xs : List Value} (h : w.ownsRow base 5 1 (.slice A n c) n xs) (hg : g < base) : Far g A n := by
  intro ad e hn
  subst e
  rcases h.2 with ⟨_, h0⟩ | ⟨b, cap, cur, hv, hb, _⟩
  · omega
  · injection hv with hv1
    cases hv1
    show b ≠ g
    omega
theorem u8_next (d : Nat) : IntKind.u8.wrap ((d : Int) + 1) = (((UInt8.ofNat (d + 1)).toNat : Nat) : Int) := by
  rw [IntKind.wrap_u8]; simp

set_option maxRecDepth 100000 in
set_option maxHeartbeats 3200000 in
theorem xxhWrites_walk (s : Int) (A1 : Option Addr) (n1 c1 : Nat) (w : World) (hs0 : 0 ≤ s) (hs1 : s < 18446744073709551616) (h1 : RowsIn .u8 w A1 n1) :
    Calls Try.prog 4 #[.int .u64 s, .slice A1 n1 c1] w fun e w' => e = .returned (.bool true) ∧ Below w.heap.size w w' := by
  obtain ⟨s, rfl⟩ := Int.eq_ofNat_of_zero_le hs0
  have hs : s < m64 := by unfold m64; omega
  obtain ⟨hn1, hz1⟩ := h1
  have HZ := Lib.hid hz1
  clear hz1 hs0 hs1
  go_enter Try.func4, Try.ntmps4
  go_wp2_with fail
  refine (new_any s w hs).mono ?_
  rintro e w1 ⟨rfl, hd1, s1⟩
  have M := Lib.hid (msum_any w.heap.size s [] w1 hd1 hs)
  have HD1 := Lib.hid hd1
  have S1 := Lib.hid s1
  clear hd1 s1
  obtain ⟨X, hX⟩ : ∃ X, X = xxSum [] s := ⟨_, rfl⟩
  rw [← hX] at M
  have HX := Lib.hid hX
  clear hX
  go_wp2_with fail
  refine M.out.mono ?_
  rintro e w2 ⟨rfl, s2⟩
  have R := Lib.hid (rsum_any none 0 0 [] s w2 0 Reads.nil0 (Nat.zero_le _) (by omega) (Nat.le_refl _) hs)
  rw [← HX.out] at R
  have HD2 := Lib.hid (HD1.out.still s2)
  have S2 := Lib.hid (S1.out.trans s2)
  clear s2 M HD1 S1
  go_wp2_with fail
  refine R.out.mono ?_
  rintro e w3 ⟨rfl, s3⟩
  have hd3 := HD2.out.still s3
  have st3 := S2.out.trans s3
  clear s3 R HD2 S2 HX
  go_wp2_with fail
  obtain ⟨base, hbase⟩ : ∃ b, b = w.heap.size + 1 := ⟨_, rfl⟩
  have hb3 : base ≤ w3.heap.size := by have := hd3.lt; omega
  have hbase1 : w.heap.size < base := by omega
  have HBB := Lib.hid (show ∀ x, w.heap.size < x → base ≤ x from fun x h => by omega)
  clear hbase
  go_loopw [6, 7] (fun av i wr => ∃ (k m : Nat) (all : List UInt8), i = .int .i64 k ∧ k ≤ n1 ∧ k ≤ 20 ∧ m ≤ 100 * k ∧ wr.ownsRow base 5 1 av m (bytesV all) ∧ Had wr w.heap.size s all ∧ Still w wr) (fun _ i _ => 20 - (intOf i).toNat)
  case atStart => exact ⟨0, 0, [], rfl, by omega, by omega, by omega, World.ownsRow_nil _ _ _ _, hd3, st3⟩
  case round =>
    obtain ⟨k, m, all, rfl, hk1, hk2, hm, own, hd, st⟩ := hrel
    have hz : w.heap.size ≤ wr.heap.size := st.size
    have hgl := hd.lt
    have hbw : base ≤ wr.heap.size := HBB.out _ hgl
    have hall : all.length = m := by have := own.1; rw [bytesV_length] at this; omega
    by_cases hlt : k < n1 ∧ k < 20
    · obtain ⟨g1, g2⟩ := hlt
      obtain ⟨b, o, A, L, C, zs, rfl, hb, hcell, hrow⟩ := HZ.out k g1
      have hcell1 : wr.cell? ⟨b, o + k, none⟩ = some (.slice A L C) := (st.cell (p := ⟨b, o + k, none⟩) hb).trans hcell
      obtain ⟨l0, rs0⟩ := rowsIn_row hrow st
      obtain ⟨n, l, rs, hn, hcut⟩ := cut_rowS rs0 100 (by omega)
      have HC := Lib.hid hcut
      have CP := Lib.hid (copy_any A n C l wr _ rs.reads (by omega) rs.nil)
      have OW := Lib.hid own
      have HD := Lib.hid hd
      have ST := Lib.hid st
      have HAL := Lib.hid hall
      clear hcell hrow rs0 hcut own hd st hall
      go_wp2_with fail
      refine HC.out.mono ?_
      rintro e w4 ⟨rfl, rfl⟩
      go_wp2_with fail
      refine CP.out.mono ?_
      rintro e w4 ⟨⟨v4, rfl, own4⟩, s4⟩
      obtain ⟨A4, c4, rfl, f4, m4, nl4⟩ := own_form own4
      have q4 := Reads.of_own own4
      have hd4 := HD.out.still s4
      have ow4 := own_still OW.out s4
      have st4 := ST.out.trans s4
      have W := Lib.hid (write_any w.heap.size s all l A4 n c4 w4 _ hd4 q4 f4 m4 (own_far own4 hgl) (fun e => (nl4 e).2) (by have := HAL.out; omega))
      have OW4 := Lib.hid own4
      have OA4 := Lib.hid ow4
      have ST4 := Lib.hid st4
      have Z4 := Lib.hid s4.size
      clear s4 own4 q4 hd4 ow4 st4 CP HC rs hcell1
      go_wp2_with fail
      refine W.out.mono ?_
      rintro e w5 ⟨rfl, hd5, gr5⟩
      have st5 := still_grown ST4.out gr5 (Nat.le_refl _)
      have hlow : ∀ j, u6.ownBlock = some j → base ≤ j ∧ j < wr.heap.size := OW.out.lt
      have hhi : ∀ j, (Value.slice A4 n c4).ownBlock = some j → wr.heap.size ≤ j ∧ j < w4.heap.size := OW4.out.lt
      have own5 := OW4.out.kept gr5 (.inr (fun e => by have := hhi _ e; omega))
      have all5 := OA4.out.kept gr5 (.inr (fun e => by have := hlow _ e; omega))
      have q5 := Reads.of_own own5
      have hz5 : w4.heap.size ≤ w5.heap.size := gr5.size
      have OW5 := Lib.hid own5
      have OA5 := Lib.hid all5
      have Q5 := Lib.hid q5
      have HD5 := Lib.hid hd5
      have ST5 := Lib.hid st5
      have HLOW := Lib.hid hlow
      have HHI := Lib.hid hhi
      clear own5 all5 q5 hd5 st5 gr5 W OW4 OA4 ST4 hlow hhi OW HD ST
      go_wp2_with (at_builtin; go_must (refine wpList_adds_at _ rfl _ _ rfl base _ m all rfl OA5.out _ n c4 _ l rfl Q5.out (fun e => (nl4 e).2) ?c1 ?c2 ?_))
      case c1 => omega
      case c2 => have := Z4.out; omega
      intro v6 w6 own6 gr6 loc6
      have hne6 : ∀ j, (Value.slice A4 n c4).ownBlock = some j → v6.ownBlock ≠ some j := by
        intro j hj e
        have h1 := HHI.out j hj
        rcases loc6 with h | h
        · rw [h] at e
          have := HLOW.out j e
          omega
        · rw [h] at e
          cases e
          omega
      have hd6 : Had w6 w.heap.size s (all ++ l) := HD5.out.keepb (gr6.block _ HD5.out.lt (fun e => by have := HLOW.out _ e.symm; omega))
      have st6 : Still w w6 := ST5.out.grown gr6 ST5.out.size (fun j hj => by have := HLOW.out _ hj; omega)
      have ob6 := OW5.out.kept gr6 (by
        rcases hv : (Value.slice A4 n c4).ownBlock with _ | j
        · exact .inl rfl
        · refine .inr (fun e => ?_)
          have h1 := HHI.out j hv
          have h2 := HLOW.out j e.symm
          omega)
      have hsz6 : w5.heap.size ≤ w6.heap.size := gr6.size
      have HN6 := Lib.hid hne6
      have HD6 := Lib.hid hd6
      have ST6 := Lib.hid st6
      have OB6 := Lib.hid ob6
      have OA6 := Lib.hid own6
      clear hne6 hd6 st6 ob6 own6 gr6 loc6 OW5 OA5 Q5 HD5 ST5 HLOW HHI
      generalize wr.heap.size = lo at *
      go_wp2_with fail
      go_loopw [9] (fun jv wr => ∃ (j : Nat) (bl : List UInt8), jv = .int .i64 j ∧ j ≤ n ∧ Hid (wr.ownsRow lo 5 1 (.slice A4 n c4) n (bytesV bl) ∧ wr.ownsRow base 5 1 v6 (m + n) (bytesV (all ++ l)) ∧ Had wr w.heap.size s (all ++ l) ∧ Still w wr)) (fun jv _ => n - (intOf jv).toNat)
      case atStart => exact ⟨0, l, rfl, by omega, OB6.out, OA6.out, HD6.out, ST6.out⟩
      case round =>
        obtain ⟨j, bl, rfl, hj, hin⟩ := hrel
        by_cases hjn : j < n
        · have own9 := hin.out.1
          have hbl : bl.length = n := by have := own9.1; rw [bytesV_length] at this; omega
          obtain ⟨g4, rfl⟩ : ∃ g4, A4 = some ⟨g4, 0, none⟩ := by
            rcases own9.2 with ⟨_, h0⟩ | ⟨b4, cap, cur, hv, _⟩
            · omega
            · injection hv with hv1
              exact ⟨b4, hv1⟩
          have cj : wr.cell? ⟨g4, j, none⟩ = some (.int .u8 ((bl.getD j 0).toNat : Int)) := by
            rw [own9.cellAt j (by omega), bytesV_get bl j (by omega)]
          have fj := own9.frozenAt j
          have un := u8_next (bl.getD j 0).toNat
          have o2 := (own9.stored j (.int .u8 ((UInt8.ofNat ((bl.getD j 0).toNat + 1)).toNat : Int))).1
          rw [bytesV_set] at o2
          have gs := grownBy_set wr g4 j (.int .u8 ((UInt8.ofNat ((bl.getD j 0).toNat + 1)).toNat : Int))
          have a2 := hin.out.2.1.kept gs (.inr (HN6.out g4 rfl))
          have hd2 := hin.out.2.2.1.grown gs (fun e => by have := (own9.lt g4 rfl).1; omega)
          have s2 := still_grown hin.out.2.2.2 gs (by have := (own9.lt g4 rfl).1; omega)
          have z1 : (0 : Int) ≤ (j : Int) := by omega
          have z2 : (j : Int) < (n : Int) := by omega
          generalize (UInt8.ofNat ((bl.getD j 0).toNat + 1)) = y at *
          generalize (bl.getD j 0).toNat = d at *
          generalize y.toNat = yy at *
          have NXT := Lib.hid (show ∃ bl', (wr.setCell ⟨g4, j, none⟩ (.int .u8 (yy : Int))).ownsRow lo 5 1 (.slice (some ⟨g4, 0, none⟩) n c4) n (bytesV bl') ∧ _ ∧ _ ∧ _ from ⟨_, o2, a2, hd2, s2⟩)
          clear o2 a2 hd2 s2 gs own9 hin hbl
          go_wp2_with fail
          go_roundw
          case rel =>
            obtain ⟨bl', h1, h2, h3, h4⟩ := NXT.out
            exact ⟨j + 1, bl', by go_num, hjn, h1, h2, h3, h4⟩
          case measure => simp [intOf]; omega
        · obtain rfl : j = n := by omega
          obtain ⟨A6, c6, rfl, f6, m6, nl6⟩ := own_form hin.out.2.1
          have q6 := Reads.of_own hin.out.2.1
          have M := Lib.hid (msum_any w.heap.size s (all ++ l) wr hin.out.2.2.1 hs)
          have HIN := hin
          obtain ⟨X, hX⟩ : ∃ X, X = xxSum (all ++ l) s := ⟨_, rfl⟩
          rw [← hX] at M
          have HX := Lib.hid hX
          have Q6 := Lib.hid q6
          clear hin q6 hX
          go_wp2_with fail
          refine M.out.mono ?_
          rintro e w7 ⟨rfl, s7⟩
          have q7 := Q6.out.still (Nat.le_refl _) s7
          have R := Lib.hid (rsum_any A6 (m + j) c6 (all ++ l) s w7 _ q7 s7.size (by omega) f6 hs)
          rw [← HX.out] at R
          have oa7 := own_still HIN.out.2.1 s7
          have hd7 := HIN.out.2.2.1.still s7
          have st7 := HIN.out.2.2.2.trans s7
          have OA7 := Lib.hid oa7
          have HD7 := Lib.hid hd7
          have ST7 := Lib.hid st7
          clear q7 s7 oa7 hd7 st7 M
          go_wp2_with fail
          refine R.out.mono ?_
          rintro e w8 ⟨rfl, s8⟩
          have OA8 := Lib.hid (own_still OA7.out s8)
          have HD8 := Lib.hid (HD7.out.still s8)
          have ST8 := Lib.hid (ST7.out.trans s8)
          clear s8 R
          go_wp2_with fail
          go_roundw
          case rel => exact ⟨k + 1, m + j, all ++ l, by go_num, by omega, by omega, by omega, OA8.out, HD8.out, ST8.out⟩
          case measure => simp [intOf]; omega
    · have key : (k < n1 ∧ decide ((k : Int) < 20) = false) ∨ ¬ k < n1 := by
        by_cases d1 : k < n1
        · exact .inl ⟨d1, by simp; omega⟩
        · exact .inr d1
      have LV := Lib.hid (lives_any wr)
      have ST := Lib.hid st
      clear hlt own hd st hall
      rcases key with ⟨d1, d2⟩ | d1
      all_goals
        go_wp2_with fail
        refine LV.out.mono ?_
        rintro e w2 ⟨rfl, s2⟩
        go_wp2_with fail
        go_ret
        exact ⟨rfl, ST.out.trans s2⟩
end Go.Proofs.Ytbnbpfbgoicogaa
