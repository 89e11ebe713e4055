/- The walk of CutPieces: it returns true, and nothing that was there turns. -/
import Derived.Test.YtjihnagoebhinaaCtPc
import Derived.Test.YtjihnagoebhinaaWithin
namespace Go.Proofs.Ytjihnagoebhinaa
open Go.RowKit
set_option linter.unusedVariables false
set_option linter.unusedSimpArgs false

/-- What holds between two cuts. -/
structure PsMid (w w2 wr : World) (base g f r : Nat) (s : Shp) (b : List UInt8) (A : Option Addr) (n c : Nat) (rest : List UInt8) (gv v : Value) (got : List (List UInt8)) (xs : List Value) (l0 : List UInt8) : Prop where
  row : RowP wr (fun k => k < w.heap.size) A n c rest
  pc : PcMid wr base g f r v s l0 gv got xs
  eq : run s [] b = (got ++ (run s l0 rest).1, (run s l0 rest).2)
  lt : l0.length < s.mt
  st : Below base w2 wr
  len : rest.length ≤ b.length
theorem got_len (s : Shp) (b : List UInt8) (got : List (List UInt8)) (x : List (List UInt8)) (y : List UInt8) (h : run s [] b = (got ++ x, y)) : got.length + x.length ≤ b.length := by
  have h1 : (chunks s b).length ≤ b.length := chunks_len s b
  unfold chunks at h1
  rw [h] at h1
  simp only [List.length_append] at h1
  omega
theorem run_take (s : Shp) (l0 rest : List UInt8) (q : Nat) : run s l0 rest = ((run s l0 (rest.take q)).1 ++ (run s (run s l0 (rest.take q)).2 (rest.drop q)).1, (run s (run s l0 (rest.take q)).2 (rest.drop q)).2) := by
  rw [← run_append, List.take_append_drop]
set_option maxRecDepth 100000 in
set_option maxHeartbeats 3200000 in
theorem cutPieces_walk (x y z u sd : Int) (a1 : Option Addr) (len1 cap1 : Nat) (z1 : List Int) (a2 : Option Addr) (len2 cap2 : Nat) (z2 : List Int) (w : World) (hsd : 0 ≤ sd ∧ sd ≤ 4294967295) (h : RowIn .u8 w a1 len1 cap1 z1) (hz2 : RowIn .i64 w a2 len2 cap2 z2) :
    Calls Try.prog 6 #[.agg #[.int .i64 x, .int .i64 y, .int .i64 z, .int .i64 u, .int .u32 sd], .slice a1 len1 cap1, .slice a2 len2 cap2] w fun e w' => e = .returned (.bool true) ∧ Below w.heap.size w w' := by
  have st := (Still.refl w).alloc (Nat.le_refl _) (.cells #[.int .i64 x, .int .i64 y, .int .i64 z, .int .i64 u, .int .u32 sd] 24)
  have hb := Blk.new w 24 #[.int .i64 x, .int .i64 y, .int .i64 z, .int .i64 u, .int .u32 sd]
  obtain ⟨l0, r0, hc0, hm0, hA0⟩ := reads_of_row h
  have HZ2 := Lib.hid (ints_of_row hz2)
  have HCU := Lib.hid (cut_any a1 len1 cap1 3000 l0 _ w.heap.size (r0.still (Nat.le_refl _) st) hc0 hm0 (by omega))
  obtain ⟨n, hn⟩ : ∃ n, n = min len1 3000 := ⟨_, rfl⟩
  obtain ⟨l, hl⟩ : ∃ l, l = l0.take 3000 := ⟨_, rfl⟩
  have rs : RowS w w.heap.size a1 n cap1 l := ⟨by rw [hn, hl]; exact r0.take 3000, by omega, hm0, fun e => ⟨by have := (hA0 e).1; omega, (hA0 e).2⟩⟩
  rw [← hn] at HCU
  have hn4 : n ≤ 3000 := by omega
  have RS := Lib.hid rs
  have LV := Lib.hid (fun W => lives_any W)
  have ST := Lib.hid st
  have BXH := Lib.hid (fun (W : World) (t : Still (w.alloc (.cells #[.int .i64 x, .int .i64 y, .int .i64 z, .int .i64 u, .int .u32 sd] 24)) W) => hb.still t)
  clear st hb h r0 hc0 hm0 hA0 hn hl rs hz2
  by_cases hok : okZ x y z u = true
  · obtain ⟨s, hs, rfl, rfl, rfl, rfl, rfl⟩ := shp_of hok hsd.1 hsd.2
    have OK := Lib.hid hs
    have HNW := Lib.hid (fun W => new_cut s hs W)
    have HMT : 0 < s.mt := by have := hs.n1; have := hs.nlt; have := hs.ltmt; omega
    clear hs hok hsd
    go_enter Try.func6, Try.ntmps6
    go_wp2_with fail
    refine HCU.out.mono ?_
    rintro e w1 ⟨rfl, rfl⟩
    go_wp2_with fail
    refine (HNW.out _).mono ?_
    rintro e w2 ⟨g, f, r, rfl, cb2, t2⟩
    obtain ⟨base, hbase⟩ : ∃ base, base = (w.alloc (.cells #[.int .i64 (s.lt : Nat), .int .i64 (s.mt : Nat), .int .i64 (s.k : Nat), .int .i64 (s.n : Nat), .int .u32 (s.seed : Nat)] 24)).heap.size := ⟨_, rfl⟩
    rw [← hbase] at cb2
    have HBS := Lib.hid hbase
    have HBW := Lib.hid (show w.heap.size ≤ base by rw [hbase]; exact ST.out.size)
    have HB2 := Lib.hid (show base ≤ w2.heap.size by rw [hbase]; exact t2.size)
    have T2 := Lib.hid t2
    have I0 : Hid (PsMid w w2 w2 base g f r s l a1 n cap1 l (.slice none 0 0) (.slice none 0 0) [] [] []) := ⟨((RowP.of_rowS RS.out (Nat.le_refl _)).still ST.out).still t2, ⟨cb2, World.ownsRow_nil _ _ _ _, Rows.nil, fun k hk => by simp [Value.ownBlock] at hk⟩, by simp, by simpa using HMT, Below.refl _ _, Nat.le_refl _⟩
    clear t2 cb2 HCU HNW hbase
    go_wp2_with fail
    go_loopw [9, 10, 11] (fun gw bv iv wr => ∃ A' n' c' rest gv v got xs l1 k, bv = .slice A' n' c' ∧ gw = gv ∧ iv = .int .i64 ((k : Nat) : Int) ∧ k ≤ len2 ∧ k ≤ 40 ∧ Hid (PsMid w w2 wr base g f r s l A' n' c' rest gv v got xs l1)) (fun _ _ iv _ => 40 - (intOf iv).toNat)
    case atStart => exact ⟨_, _, _, _, _, _, _, _, _, 0, rfl, rfl, rfl, Nat.zero_le _, by omega, I0⟩
    case round =>
      clear I0
      obtain ⟨A', n', c', rest, gv, v, got, xs, l1, k, rfl, rfl, rfl, hk1, hk2, hin⟩ := hrel
      have TW := Lib.hid (show Below w.heap.size w wr from Below.trans ST.out (Below.trans (T2.out.mono ST.out.size) (hin.out.st.mono HBW.out)))
      have HLR := Lib.hid (show rest.length = n' ∧ n' ≤ 3000 from ⟨hin.out.row.len, by have := hin.out.row.len; have := hin.out.len; have := RS.out.reads.1; omega⟩)
      have HBR := Lib.hid (Nat.le_trans HB2.out hin.out.st.size)
      have HPQ := Lib.hid (show ∀ k, k < w.heap.size → k < wr.heap.size ∧ ¬ Cs g f r v k from fun k hk => ⟨by have := HBR.out; have := HBW.out; omega, fun hc => by have := hin.out.pc.cb.ge k hc; have := HBW.out; omega⟩)
      have HW := Lib.hid (fun q (hq : q ≤ n') => write_any s OK.out hin.out.lt A' q c' (rest.take q) wr (fun k => k < w.heap.size) hin.out.pc.cb (hin.out.row.takek hq) HPQ.out (by have := HLR.out; omega) HBR.out)
      have HGL := Lib.hid (show ∀ q, q ≤ n' → got.length + (run s l1 (rest.take q)).1.length ≤ 1048576 from fun q hq => by
        have h1 := hin.out.eq
        rw [run_take s l1 rest q, ← List.append_assoc] at h1
        have h2 := got_len s l _ _ _ h1
        rw [List.length_append] at h2
        have := RS.out.reads.1
        omega)
      by_cases hlt : k < len2 ∧ k < 40
      · obtain ⟨g1, g2⟩ := hlt
        obtain ⟨bz, oz, yz, rfl, hbz, hcell⟩ := HZ2.out.2 k g1
        have hcell1 : wr.cell? ⟨bz, oz + k, none⟩ = some (.int .i64 yz) := (TW.out.cell (p := ⟨bz, oz + k, none⟩) hbz).trans hcell
        clear hcell
        go_wp2_with fail
        refine (within_any yz 0 n' wr (by omega)).mono ?_
        rintro e w3 ⟨⟨q, hq1, hq2, rfl⟩, rfl⟩
        obtain ⟨q, rfl⟩ := Int.eq_ofNat_of_zero_le hq1
        have hqm : q ≤ n' := by omega
        have hqc : (q : Int) ≤ (c' : Int) := by have := hin.out.row.fit; omega
        have HQ := Lib.hid hqm
        clear hcell1
        go_wp2_with fail
        refine (HW.out q HQ.out).mono ?_
        rintro e w4 ⟨lv, v', ys0, rfl, o4, r4, cb4, ap4, hd4, ch4⟩
        obtain ⟨Al, cl, rfl, hl1, hl2, hl3⟩ := own_formB o4
        obtain ⟨ys, ry, ylen, ycell⟩ := (RowsR.of_own o4 r4).list
        have P4 := Lib.hid (hin.out.pc.wrote cb4 hd4 ch4)
        have B4 : Below base wr w4 := ch4.below HBR.out (fun k hk => hin.out.pc.cb.ge k hk)
        have H4 := Lib.hid (And.intro ry (And.intro ylen (And.intro ycell B4)))
        have HGQ := HGL.out q HQ.out
        have HB4 := Nat.le_trans HBR.out B4.size
        clear o4 r4 cb4 ap4 hd4 ch4 ry ylen ycell B4
        go_wp2_with ((first | (guard_target =~ wpList _ _ _ (Oper.mk (some 54) _ _ _ _ _ :: _) _ _; go_must (refine wpList_moreB _ rfl _ _ rfl base _ _ _ rfl P4.out.own _ _ _ ys rfl H4.out.2.1 hl3 H4.out.2.2.1 H4.out.1.cells HGQ HB4 ?_)) | fail))
        intro gv' w5 o5 g5 hv5
        have P5 : PcMid w5 base g f r v' s (run s l1 (rest.take q)).2 gv' (got ++ (run s l1 (rest.take q)).1) (xs ++ ys) := hin.out.pc.tell P4.out H4.out.1 o5 g5 hv5
        have B5 : Below base wr w5 := H4.out.2.2.2.grown g5 HB4 (fun k hk => own_block_ge P4.out.own k hk)
        have R5 : RowP w5 (fun k => k < w.heap.size) A' n' c' rest := hin.out.row.keep (fun k hk _ => B5.block k (by have := HBW.out; omega)) B5.size
        have E5 : run s [] l = ((got ++ (run s l1 (rest.take q)).1) ++ (run s (run s l1 (rest.take q)).2 (rest.drop q)).1, (run s (run s l1 (rest.take q)).2 (rest.drop q)).2) := by
          rw [hin.out.eq, run_take s l1 rest q, List.append_assoc]
        have L5 := (run_sizes s OK.out (rest.take q) l1 hin.out.lt).2
        have N5 : (rest.drop q).length ≤ l.length := by rw [List.length_drop]; have := hin.out.len; omega
        have S5 := Below.trans hin.out.st B5
        clear o5 g5 hv5 H4 P4 HGQ HB4
        by_cases hck : c' = q
        · have M5 : Hid (PsMid w w2 w5 base g f r s l A' 0 0 (rest.drop q) gv' v' (got ++ (run s l1 (rest.take q)).1) (xs ++ ys) (run s l1 (rest.take q)).2) := ⟨R5.endk (by have := R5.fit; omega), P5, E5, L5, S5, N5⟩
          have hnq : n' = q := by have := R5.fit; have := HQ.out; omega
          clear R5 P5 E5 L5 S5 N5 hin B5
          subst hnq
          subst hck
          go_wp2_with fail
          go_roundw
          case rel => exact ⟨_, 0, 0, _, _, _, _, _, _, k + 1, rfl, rfl, by go_num, by omega, by omega, M5⟩
          case measure => simp [intOf]; omega
        · have M5 : Hid (PsMid w w2 w5 base g f r s l (A'.map (·.add q)) (n' - q) (c' - q) (rest.drop q) gv' v' (got ++ (run s l1 (rest.take q)).1) (xs ++ ys) (run s l1 (rest.take q)).2) := ⟨R5.dropk HQ.out, P5, E5, L5, S5, N5⟩
          clear R5 P5 E5 L5 S5 N5 hin B5
          go_wp2_with fail
          go_roundw
          case rel => exact ⟨_, n' - q, c' - q, _, _, _, _, _, _, k + 1, rfl, rfl, by go_num, by omega, by omega, M5⟩
          case measure => simp [intOf]; omega
      · have key : (k < len2 ∧ decide ((k : Int) < 40) = false) ∨ ¬ k < len2 := by
          by_cases d1 : k < len2
          · exact .inl ⟨d1, by simp; omega⟩
          · exact .inr d1
        have HWL := Lib.hid (write_any s OK.out hin.out.lt A' n' c' rest wr (fun k => k < w.heap.size) hin.out.pc.cb hin.out.row HPQ.out (by have := HLR.out; omega) HBR.out)
        have HGQ : got.length + (run s l1 rest).1.length ≤ 1048576 := by
          have h2 := got_len s l _ _ _ hin.out.eq
          have := RS.out.reads.1
          omega
        clear HW HGL hlt
        rcases key with ⟨d1, d2⟩ | d1
        all_goals
          go_wp2_with fail
          refine HWL.out.mono ?_
          rintro e w4 ⟨lv, v', ys0, rfl, o4, r4, cb4, ap4, hd4, ch4⟩
          obtain ⟨Al, cl, rfl, hl1, hl2, hl3⟩ := own_formB o4
          obtain ⟨ys, ry, ylen, ycell⟩ := (RowsR.of_own o4 r4).list
          have P4 := Lib.hid (hin.out.pc.wrote cb4 hd4 ch4)
          have B4 : Below base wr w4 := ch4.below HBR.out (fun k hk => hin.out.pc.cb.ge k hk)
          have H4 := Lib.hid (And.intro ry (And.intro ylen (And.intro ycell B4)))
          have HB4 := Nat.le_trans HBR.out B4.size
          clear o4 r4 cb4 ap4 hd4 ch4 ry ylen ycell B4
          go_wp2_with ((first | (guard_target =~ wpList _ _ _ (Oper.mk (some 62) _ _ _ _ _ :: _) _ _; go_must (refine wpList_moreB _ rfl _ _ rfl base _ _ _ rfl P4.out.own _ _ _ ys rfl H4.out.2.1 hl3 H4.out.2.2.1 H4.out.1.cells HGQ HB4 ?_)) | fail))
          intro gv' w5 o5 g5 hv5
          have P5 : PcMid w5 base g f r v' s (run s l1 rest).2 gv' (got ++ (run s l1 rest).1) (xs ++ ys) := hin.out.pc.tell P4.out H4.out.1 o5 g5 hv5
          have B5 : Below base wr w5 := H4.out.2.2.2.grown g5 HB4 (fun k hk => own_block_ge P4.out.own k hk)
          have E5 : run s [] l = (got ++ (run s l1 rest).1, (run s l1 rest).2) := hin.out.eq
          obtain ⟨GG, hGG⟩ : ∃ GG, GG = got ++ (run s l1 rest).1 := ⟨_, rfl⟩
          obtain ⟨last, hlast⟩ : ∃ last, last = (run s l1 rest).2 := ⟨_, rfl⟩
          rw [← hGG, ← hlast] at E5 P5
          have PP5 := Lib.hid P5
          have EE5 := Lib.hid E5
          have S5 := Lib.hid (Below.trans hin.out.st B5)
          have HEN := Lib.hid (end_any OK.out w5 P5.cb)
          have HGLL : GG.length < 1048576 := by
            have h2 := got_len s l GG [] last (by simpa using E5)
            have := RS.out.reads.1
            simp at h2
            omega
          have HLL := Lib.hid (show last.length ≤ 3000 from by
            have h3 := run_join s l []
            rw [E5] at h3
            have h4 := congrArg List.length h3
            simp only [List.length_append, List.nil_append] at h4
            have := RS.out.reads.1
            omega)
          have HB5 := Lib.hid (Nat.le_trans HBR.out B5.size)
          clear o5 g5 hv5 H4 P4 HGQ HB4 P5 B5 E5 hGG hlast hin
          obtain ⟨Ag, cg, rfl, hg1, hg2, hg3⟩ := own_formB PP5.out.own
          obtain ⟨Av, cv, rfl, hv1, hv2, hv3⟩ := own_formB PP5.out.cb.own
          go_wp2_with fail
          refine HEN.out.mono ?_
          rintro e w6 ⟨rfl, o6, cb6, ch6⟩
          have ch6' : Chg w5 w6 (Cs g f r (.slice Av last.length cv)) := ch6.mono (fun k _ hk => Or.elim hk (fun e => .inl e) (fun hk => Or.elim hk (fun e => .inr (.inl e)) (fun e => .inr (.inr (.inl e)))))
          have P6 := Lib.hid (PP5.out.wrote cb6 (fun k hk => by simp [Value.ownBlock] at hk) ch6')
          have O6 := Lib.hid (RowP.of_own o6)
          have B6 := ch6'.below HB5.out (fun k hk => PP5.out.cb.ge k hk)
          have S6 := Lib.hid (Below.trans S5.out B6)
          have HB6 := Nat.le_trans HB5.out B6.size
          have APX := Lib.hid (fun k (hk : (Value.slice Av last.length cv).ownBlock = some k) => (⟨fun e => PP5.out.apart k e (.inr (.inr (.inr hk))), fun hc => by
            have h7 := PP5.out.cb.far k hk
            rcases hc with h1 | h1 | h1 | h1
            · exact h7.1 h1
            · exact h7.2.1 h1
            · exact h7.2.2 h1
            · simp [Value.ownBlock] at h1⟩ : (Value.slice Ag GG.length cg).ownBlock ≠ some k ∧ ¬ Cs g f r (.slice none 0 0) k))
          clear o6 cb6 ch6 ch6' B6 HEN
          by_cases hz : last = []
          · subst hz
            have EC : GG = chunks s l := by unfold chunks; rw [EE5.out]; simp
            obtain ⟨C, hC⟩ : ∃ C, C = chunks s l := ⟨_, rfl⟩
            rw [← hC] at EC
            subst EC
            have HCC := Lib.hid hC
            clear hC
            have B7 := BXH.out w6 (Below.trans T2.out (HBS.out ▸ S6.out))
            have RG := Lib.hid (RowsR.of_own P6.out.own P6.out.rows)
            have HSP := Lib.hid (split_yes s OK.out a1 n cap1 l w6 ((((RowP.of_rowS RS.out (Nat.le_refl _)).still ST.out).still T2.out).keep (fun k hk _ => S6.out.block k (by have := HBW.out; omega)) S6.out.size |>.mono (fun _ _ _ => trivial)) (by omega))
            have b0 := B7.cell 0
            have b1 := B7.cell 1
            have b2 := B7.cell 2
            have b3 := B7.cell 3
            have b4 := B7.cell 4
            simp only [List.getElem?_toArray, List.getElem?_cons_succ, List.getElem?_cons_zero] at b0 b1 b2 b3 b4
            clear B7
            go_wp2_with fail
            refine HSP.out.mono ?_
            rintro e w7 ⟨wv, us, rfl, o7, r7, t7⟩
            rw [← HCC.out] at o7 r7
            obtain ⟨Aw, cw, rfl, hw1, hw2, hw3⟩ := own_formB o7
            have HCS := chunks_short s l (by have := RS.out.reads.1; omega)
            have HCL := chunks_len s l
            rw [← HCC.out] at HCS HCL
            have HCL2 : GG.length ≤ 70368744177664 := by have := RS.out.reads.1; omega
            have HSA := Lib.hid (rows_same _ _ _ _ _ _ _ _ w7 (RG.out.still t7) (RowsR.of_own o7 r7) HCL2 HCL2 HCS HCS)
            rw [decide_eq_true rfl] at HSA
            have T7 := Lib.hid t7
            clear o7 r7 t7 HSP b0 b1 b2 b3 b4 HCL HCS
            go_wp2_with fail
            refine HSA.out.mono ?_
            rintro e w8 ⟨rfl, m8, hw8⟩
            have T8 := Lib.hid (show Still w7 w8 from hw8 ▸ still_drewN (Still.refl w7) m8)
            clear hw8
            go_wp2_with fail
            refine (LV.out _).mono ?_
            rintro e w9 ⟨rfl, t9⟩
            have T9 := Lib.hid (Still.trans (Still.trans ST.out (Below.trans T2.out (HBS.out ▸ S6.out))) (Still.trans T7.out (Still.trans T8.out t9)))
            clear t9
            go_wp2_with fail
            go_ret
            exact ⟨rfl, T9.out⟩
          · have hz0 : 0 < last.length := by
              rcases Nat.eq_zero_or_pos last.length with h0 | h0
              · exact absurd (List.eq_nil_of_length_eq_zero h0) hz
              · exact h0
            have hz1 : (0 : Int) < (last.length : Int) := by omega
            have EC := Lib.hid (show chunks s l = GG ++ [last] by unfold chunks; rw [EE5.out, if_neg hz])
            clear hz
            go_wp2_with ((first | (guard_target =~ wpList _ _ _ (Oper.mk (some 70) _ _ _ _ _ :: _) _ _; go_must (refine wpList_boxB _ rfl _ rfl _ _ _ rfl ?_)) | (guard_target =~ wpList _ _ _ (Oper.mk (some 71) _ _ _ _ _ :: _) _ _; go_must (refine wpList_oneB _ rfl _ _ rfl base _ _ _ rfl P6.out.own _ rfl rfl HGLL HB6 ?_)) | fail))
            intro gv7 w7 o7 g7 hv7
            rw [← List.append_assoc] at o7
            have P7 := P6.out.more (Rows.one O6.out) (fun k hk _ => APX.out k hk.2) o7 g7 (fun k hk => by
              rcases hv7 with e | e
              · rw [e] at hk; exact .inl hk
              · rw [e] at hk; exact .inr (by have := Option.some.inj hk; omega))
            have S7 := Lib.hid (S6.out.grown g7 HB6 (fun k hk => own_block_ge P6.out.own k hk))
            have B7 := BXH.out w7 (Below.trans T2.out (HBS.out ▸ S7.out))
            rw [← EC.out] at P7
            obtain ⟨Ag7, cg7, rfl, hg71, hg72, hg73⟩ := own_formB P7.own
            have RG := Lib.hid (RowsR.of_own P7.own P7.rows)
            have HSP := Lib.hid (split_yes s OK.out a1 n cap1 l w7 ((((RowP.of_rowS RS.out (Nat.le_refl _)).still ST.out).still T2.out).keep (fun k hk _ => S7.out.block k (by have := HBW.out; omega)) S7.out.size |>.mono (fun _ _ _ => trivial)) (by omega))
            have b0 := B7.cell 0
            have b1 := B7.cell 1
            have b2 := B7.cell 2
            have b3 := B7.cell 3
            have b4 := B7.cell 4
            simp only [List.getElem?_toArray, List.getElem?_cons_succ, List.getElem?_cons_zero] at b0 b1 b2 b3 b4
            clear B7 P7 o7 g7 hv7
            go_wp2_with fail
            refine HSP.out.mono ?_
            rintro e w8 ⟨wv, us, rfl, o8, r8, t8⟩
            obtain ⟨Aw, cw, rfl, hw1, hw2, hw3⟩ := own_formB o8
            have HCL : (chunks s l).length ≤ 70368744177664 := by have := chunks_len s l; have := RS.out.reads.1; omega
            have HCS := chunks_short s l (by have := RS.out.reads.1; omega)
            have HSA := Lib.hid (rows_same _ _ _ _ _ _ _ _ w8 (RG.out.still t8) (RowsR.of_own o8 r8) HCL HCL HCS HCS)
            rw [decide_eq_true rfl] at HSA
            have T8 := Lib.hid t8
            clear o8 r8 t8 HSP b0 b1 b2 b3 b4 HCL HCS
            go_wp2_with fail
            refine HSA.out.mono ?_
            rintro e w9 ⟨rfl, m9, hw9⟩
            have T9 := Lib.hid (show Still w8 w9 from hw9 ▸ still_drewN (Still.refl w8) m9)
            clear hw9
            go_wp2_with fail
            refine (LV.out _).mono ?_
            rintro e w10 ⟨rfl, t10⟩
            have T10 := Lib.hid (Still.trans (Still.trans ST.out (Below.trans T2.out (HBS.out ▸ S7.out))) (Still.trans T8.out (Still.trans T9.out t10)))
            clear t10
            go_wp2_with fail
            go_ret
            exact ⟨rfl, T10.out⟩
  · have hno : okZ x y z u = false := by cases h : okZ x y z u with | false => rfl | true => exact absurd h hok
    clear hok
    go_enter Try.func6, Try.ntmps6
    go_wp2_with fail
    refine HCU.out.mono ?_
    rintro e w1 ⟨rfl, rfl⟩
    go_wp2_with fail
    refine (cnew_no x y z u sd _ hno).mono ?_
    rintro e w3 ⟨rfl, t3⟩
    have T3 := Lib.hid t3
    clear t3
    go_wp2_with fail
    refine (LV.out _).mono ?_
    rintro e w7 ⟨rfl, t7⟩
    have T7 := Lib.hid (Still.trans (Still.trans ST.out T3.out) t7)
    clear t7
    go_wp2_with fail
    go_ret
    exact ⟨rfl, T7.out⟩
end Go.Proofs.Ytjihnagoebhinaa
