/- The walk of CutSizes: it returns true, and nothing that was there turns. -/
import Derived.Test.YtjihnagoebhinaaCtLives
import Derived.Test.YtjihnagoebhinaaCtSame
namespace Go.Proofs.Ytjihnagoebhinaa
open Go.RowKit
set_option linter.unusedVariables false
set_option linter.unusedSimpArgs false

theorem shp_of {x y z u sd : Int} (h : okZ x y z u = true) (h0 : 0 ≤ sd) (h1 : sd ≤ 4294967295) : ∃ s : Shp, s.Ok ∧ x = (s.lt : Nat) ∧ y = (s.mt : Nat) ∧ z = (s.k : Nat) ∧ u = (s.n : Nat) ∧ sd = (s.seed : Nat) := by
  unfold okZ at h
  simp only [Bool.and_eq_true, decide_eq_true_eq] at h
  refine ⟨⟨x.toNat, y.toNat, z.toNat, u.toNat, sd.toNat⟩, ⟨?_, ?_, ?_, ?_, ?_, ?_, ?_⟩, ?_, ?_, ?_, ?_, ?_⟩ <;> simp only <;> omega
theorem chunks_short (s : Shp) (b : List UInt8) (h : b.length ≤ 65536) : Short (chunks s b) := by
  intro i hi
  have h1 : ((chunks s b).getD i []).length ≤ (chunks s b).flatten.length := by
    have hm : (chunks s b).getD i [] ∈ chunks s b := by
      rw [show (chunks s b).getD i [] = (chunks s b)[i] by simp [List.getD, hi]]
      exact List.getElem_mem hi
    generalize (chunks s b).getD i [] = x at hm ⊢
    generalize chunks s b = L at hm ⊢
    clear hi h
    induction L with
    | nil => cases hm
    | cons y t ih =>
      rw [List.flatten_cons, List.length_append]
      rcases List.mem_cons.1 hm with rfl | hm
      · omega
      · have := ih hm
        omega
  rw [chunks_join] at h1
  omega
theorem lens_at (L : List (List UInt8)) (i : Nat) (hi : i < L.length) : (intsV (lens L))[i]? = some (.int .i64 ((L.getD i []).length : Int)) := by
  simp [intsV, lens, List.getD, hi]
set_option maxRecDepth 100000 in
set_option maxHeartbeats 3200000 in
theorem cutSizes_walk (x y z u sd : Int) (a1 : Option Addr) (len1 cap1 : Nat) (z1 : List Int) (w : World) (hsd : 0 ≤ sd ∧ sd ≤ 4294967295) (h : RowIn .u8 w a1 len1 cap1 z1) :
    Calls Try.prog 3 #[.agg #[.int .i64 x, .int .i64 y, .int .i64 z, .int .i64 u, .int .u32 sd], .slice a1 len1 cap1] w fun e w' => e = .returned (.bool true) ∧ Below w.heap.size w w' := by
  have st := (Still.refl w).alloc (Nat.le_refl _) (.cells #[.int .i64 x, .int .i64 y, .int .i64 z, .int .i64 u, .int .u32 sd] 24)
  have hb := Blk.new w 24 #[.int .i64 x, .int .i64 y, .int .i64 z, .int .i64 u, .int .u32 sd]
  obtain ⟨l0, r0, hc0, hm0, hA0⟩ := reads_of_row h
  have HCU := Lib.hid (cut_any a1 len1 cap1 400 l0 _ w.heap.size (r0.still (Nat.le_refl _) st) hc0 hm0 (by omega))
  obtain ⟨n, hn⟩ : ∃ n, n = min len1 400 := ⟨_, rfl⟩
  obtain ⟨l, hl⟩ : ∃ l, l = l0.take 400 := ⟨_, rfl⟩
  have rs : RowS w w.heap.size a1 n cap1 l := ⟨by rw [hn, hl]; exact r0.take 400, by omega, hm0, fun e => ⟨by have := (hA0 e).1; omega, (hA0 e).2⟩⟩
  rw [← hn] at HCU
  have hn4 : n ≤ 400 := by omega
  have RS := Lib.hid rs
  have LV := Lib.hid (fun W => lives_any W)
  have CK := Lib.hid (fun W => check_any x y z u sd W)
  have RCK := Lib.hid (fun W => rcheck_any x y z u sd W)
  have HCP := Lib.hid (copy_any a1 n cap1 l _ w.heap.size (rs.reads.still (Nat.le_refl _) st) (by omega) (fun e => rs.nil e))
  have ST := Lib.hid st
  have HB := Lib.hid hb
  have BX := fun (W : World) (t : Still (w.alloc (.cells #[.int .i64 x, .int .i64 y, .int .i64 z, .int .i64 u, .int .u32 sd] 24)) W) => hb.still t
  have BXH := Lib.hid BX
  clear st hb h r0 hc0 hm0 hA0 hn hl rs BX
  by_cases hok : okZ x y z u = true
  · obtain ⟨s, hs, rfl, rfl, rfl, rfl, rfl⟩ := shp_of hok hsd.1 hsd.2
    rw [hok] at CK RCK
    simp only [if_true] at CK RCK
    have OK := Lib.hid hs
    clear hs hok hsd
    go_enter Try.func3, Try.ntmps3
    go_wp2_with fail
    refine HCU.out.mono ?_
    rintro e w1 ⟨rfl, rfl⟩
    go_wp2_with fail
    refine HCP.out.mono ?_
    rintro e w2 ⟨⟨v, rfl, o2⟩, t2⟩
    obtain ⟨Am, cm, rfl, hm1, hm2, hm3⟩ := own_form o2
    have RM := Lib.hid (RowP.of_own o2)
    have T2 := Lib.hid t2
    have HSP := Lib.hid (split_yes s OK.out Am n cm l w2 (RM.out.mono (fun _ _ _ => trivial)) (by omega))
    have HBX := BXH.out w2 T2.out
    have b0 := HBX.cell 0
    have b1 := HBX.cell 1
    have b2 := HBX.cell 2
    have b3 := HBX.cell 3
    have b4 := HBX.cell 4
    simp only [List.getElem?_toArray, List.getElem?_cons_succ, List.getElem?_cons_zero] at b0 b1 b2 b3 b4
    clear t2 o2 HBX HCU HCP
    go_wp2_with fail
    refine HSP.out.mono ?_
    rintro e w3 ⟨lv, xs, rfl, o3, r3, t3⟩
    obtain ⟨Al, cl, rfl, hl1, hl2, hl3⟩ := own_formB o3
    have RL := Lib.hid (RowsR.of_own o3 r3)
    have T3 := Lib.hid (Still.trans T2.out t3)
    have RM3 := Lib.hid (RM.out.still t3)
    have HSZ := Lib.hid (sizes_yes s OK.out Am n cm l w3 w3.heap.size RM3.out.rowS (Nat.le_refl _) (by omega))
    have HBX := BXH.out w3 T3.out
    have b0 := HBX.cell 0
    have b1 := HBX.cell 1
    have b2 := HBX.cell 2
    have b3 := HBX.cell 3
    have b4 := HBX.cell 4
    simp only [List.getElem?_toArray, List.getElem?_cons_succ, List.getElem?_cons_zero] at b0 b1 b2 b3 b4
    clear t3 o3 r3 HBX HSP RM
    go_wp2_with fail
    refine HSZ.out.mono ?_
    rintro e w4 ⟨nv, rfl, o4, t4⟩
    obtain ⟨An, cn, rfl, hn1, hn2, hn3⟩ := own_formB o4
    have O4 := Lib.hid o4
    have T4 := Lib.hid (Still.trans T3.out t4)
    have RL4 := Lib.hid (RL.out.still t4)
    have RM4 := Lib.hid (RM3.out.still t4)
    have HBX := BXH.out w4 T4.out
    have b0 := HBX.cell 0
    have b1 := HBX.cell 1
    have b2 := HBX.cell 2
    have b3 := HBX.cell 3
    have b4 := HBX.cell 4
    simp only [List.getElem?_toArray, List.getElem?_cons_succ, List.getElem?_cons_zero] at b0 b1 b2 b3 b4
    clear t4 o4 HBX HSZ RM3 RL
    go_wp2_with fail
    refine (RCK.out _).mono ?_
    rintro e w5 ⟨rfl, t5⟩
    have T5 := Lib.hid (Still.trans T4.out t5)
    have RL5 := Lib.hid (RL4.out.still t5)
    have RM5 := Lib.hid (RM4.out.still t5)
    have O5 := Lib.hid (still_own O4.out t5)
    have HBX := BXH.out w5 T5.out
    have b0 := HBX.cell 0
    have b1 := HBX.cell 1
    have b2 := HBX.cell 2
    have b3 := HBX.cell 3
    have b4 := HBX.cell 4
    simp only [List.getElem?_toArray, List.getElem?_cons_succ, List.getElem?_cons_zero] at b0 b1 b2 b3 b4
    have HRS := Lib.hid (rsplit_low s OK.out a1 n cap1 l w5 (fun k => k < w.heap.size) ((RowP.of_rowS RS.out (Nat.le_refl _)).still (Still.trans ST.out T5.out)) (fun k hk => Nat.lt_of_lt_of_le hk (Still.trans ST.out T5.out).size) (by omega))
    clear t5 HBX RM4 RL4 O4
    go_wp2_with fail
    refine HRS.out.mono ?_
    rintro e w6 ⟨wv, ys, rfl, o6, r6, t6⟩
    obtain ⟨Aw, cw, rfl, hw1, hw2, hw3⟩ := own_formB o6
    have RW6 := Lib.hid (RowsR.of_own o6 r6)
    have T6 := Lib.hid (Still.trans T5.out t6)
    have RL6 := Lib.hid (RL5.out.still t6)
    have RM6 := Lib.hid (RM5.out.still t6)
    have O6 := Lib.hid (still_own O5.out t6)
    have HBX := BXH.out w6 T6.out
    have b0 := HBX.cell 0
    have b1 := HBX.cell 1
    have b2 := HBX.cell 2
    have b3 := HBX.cell 3
    have b4 := HBX.cell 4
    simp only [List.getElem?_toArray, List.getElem?_cons_succ, List.getElem?_cons_zero] at b0 b1 b2 b3 b4
    clear t6 o6 r6 HBX RL5 RM5 O5 HRS
    go_wp2_with fail
    refine (CK.out _).mono ?_
    rintro e w7 ⟨rfl, t7⟩
    have T7 := Lib.hid (Still.trans T6.out t7)
    have RW7 := Lib.hid (RW6.out.still t7)
    have RL7 := Lib.hid (RL6.out.still t7)
    have RM7 := Lib.hid (RM6.out.still t7)
    have O7 := Lib.hid (still_own O6.out t7)
    have HL : (chunks s l).length ≤ 400 := by have := chunks_len s l; have := RM6.out.len; omega
    have SH := chunks_short s l (by have := RM6.out.len; omega)
    have HSA := Lib.hid (rows_same _ _ _ _ _ _ _ _ w7 RL7.out RW7.out (by omega) (by omega) SH SH)
    rw [decide_eq_true rfl] at HSA
    clear t7 RW6 RL6 RM6 O6 SH b0 b1 b2 b3 b4
    go_wp2_with fail
    refine HSA.out.mono ?_
    rintro e w8 ⟨rfl, m8, hw8⟩
    have t8 : Still w7 w8 := hw8 ▸ still_drewN (Still.refl w7) m8
    have T8 := Lib.hid (Still.trans T7.out t8)
    have RW8 := Lib.hid (RW7.out.still t8)
    have RM8 := Lib.hid (RM7.out.still t8)
    have O8 := Lib.hid (still_own O7.out t8)
    have RB8 := Lib.hid (((RowP.of_rowS RS.out (Nat.le_refl _)).still (Still.trans ST.out T7.out)).still t8)
    have HSB := Lib.hid (same_any Am a1 n n cm cap1 l l w8 _ _ RM8.out.reads RB8.out.reads (by omega) (by omega))
    rw [decide_eq_true rfl] at HSB
    clear t8 hw8 RW7 RL7 RM7 O7 HSA
    go_wp2_with fail
    refine HSB.out.mono ?_
    rintro e w9 ⟨rfl, t9⟩
    have I0 : Hid (Still w8 w9) := t9
    have RW9 := Lib.hid (RW8.out.still t9)
    have O9 := Lib.hid (still_own O8.out t9)
    have T9 := Lib.hid (Still.trans (Still.trans ST.out T8.out) t9)
    clear t9 RW8 RM8 O8 RB8 HSB I0
    obtain ⟨M, hM⟩ : ∃ M, M = (chunks s l).length := ⟨_, rfl⟩
    rw [← hM] at HL RW9 O9 ⊢
    have HM := Lib.hid hM
    clear hM
    go_wp2_with fail
    clear b0 b1 b2 b3 b4
    go_loopw [12] (fun iv wr => ∃ k : Nat, iv = .int .i64 k ∧ k ≤ M ∧ Hid (Still w9 wr)) (fun iv _ => M - (intOf iv).toNat)
    case atStart => exact ⟨0, rfl, Nat.zero_le _, Lib.hid (Still.refl _)⟩
    case round =>
      obtain ⟨k, rfl, hk, hin⟩ := hrel
      by_cases hlt : k < M
      · have hlt2 : k < (chunks s l).length := by have := HM.out; omega
        obtain ⟨g1, rfl, d1⟩ := own_at (still_own O9.out hin.out) k hlt _ (lens_at (chunks s l) k hlt2)
        obtain ⟨g2, o2, rfl, _, _, hat⟩ := (RW9.out.still hin.out).at_ (by omega)
        obtain ⟨A', n', c', d2, p2⟩ := hat k hlt
        have e2 := p2.len
        rw [e2] at d1
        have q1 : (0 : Int) ≤ (k : Int) := by omega
        have q2 : (k : Int) < (M : Int) := by omega
        have HLT := Lib.hid hlt
        clear hat p2 e2 hlt hlt2
        go_wp2_with fail
        go_quiet (fail)
        go_wp2_with fail
        go_roundw
        case rel => exact ⟨k + 1, by go_num, by have := HLT.out; omega, Lib.hid (still_drewN hin.out _)⟩
        case measure => simp [intOf]; have := HLT.out; omega
      · obtain rfl : k = M := by omega
        go_wp2_with fail
        refine (LV.out _).mono ?_
        rintro e w10 ⟨rfl, t10⟩
        have T10 := Lib.hid (Still.trans T9.out (Still.trans hin.out t10))
        clear t10
        go_wp2_with fail
        go_ret
        exact ⟨rfl, T10.out⟩
  · have hno : okZ x y z u = false := by cases h : okZ x y z u with | false => rfl | true => exact absurd h hok
    rw [hno] at CK RCK
    simp only [Bool.false_eq_true, if_false] at CK RCK
    clear hok
    go_enter Try.func3, Try.ntmps3
    go_wp2_with fail
    refine HCU.out.mono ?_
    rintro e w1 ⟨rfl, rfl⟩
    go_wp2_with fail
    refine HCP.out.mono ?_
    rintro e w2 ⟨⟨v, rfl, o2⟩, t2⟩
    obtain ⟨Am, cm, rfl, hm1, hm2, hm3⟩ := own_form o2
    have T2 := Lib.hid t2
    have HBX := BXH.out w2 T2.out
    have b0 := HBX.cell 0
    have b1 := HBX.cell 1
    have b2 := HBX.cell 2
    have b3 := HBX.cell 3
    have b4 := HBX.cell 4
    simp only [List.getElem?_toArray, List.getElem?_cons_succ, List.getElem?_cons_zero] at b0 b1 b2 b3 b4
    clear t2 o2 HBX HCU HCP
    go_wp2_with fail
    refine (split_no x y z u sd _ w2 hno).mono ?_
    rintro e w3 ⟨rfl, t3⟩
    have T3 := Lib.hid (Still.trans T2.out t3)
    have HBX := BXH.out w3 T3.out
    have b0 := HBX.cell 0
    have b1 := HBX.cell 1
    have b2 := HBX.cell 2
    have b3 := HBX.cell 3
    have b4 := HBX.cell 4
    simp only [List.getElem?_toArray, List.getElem?_cons_succ, List.getElem?_cons_zero] at b0 b1 b2 b3 b4
    clear t3 HBX
    go_wp2_with fail
    refine (sizes_no x y z u sd _ w3 hno).mono ?_
    rintro e w4 ⟨rfl, t4⟩
    have T4 := Lib.hid (Still.trans T3.out t4)
    have HBX := BXH.out w4 T4.out
    have b0 := HBX.cell 0
    have b1 := HBX.cell 1
    have b2 := HBX.cell 2
    have b3 := HBX.cell 3
    have b4 := HBX.cell 4
    simp only [List.getElem?_toArray, List.getElem?_cons_succ, List.getElem?_cons_zero] at b0 b1 b2 b3 b4
    clear t4 HBX
    go_wp2_with fail
    refine (RCK.out _).mono ?_
    rintro e w5 ⟨rfl, t5⟩
    have T5 := Lib.hid (Still.trans T4.out t5)
    have HBX := BXH.out w5 T5.out
    have b0 := HBX.cell 0
    have b1 := HBX.cell 1
    have b2 := HBX.cell 2
    have b3 := HBX.cell 3
    have b4 := HBX.cell 4
    simp only [List.getElem?_toArray, List.getElem?_cons_succ, List.getElem?_cons_zero] at b0 b1 b2 b3 b4
    clear t5 HBX
    go_wp2_with fail
    refine (CK.out _).mono ?_
    rintro e w6 ⟨rfl, t6⟩
    have T6 := Lib.hid (Still.trans T5.out t6)
    clear t6 b0 b1 b2 b3 b4
    go_wp2_with fail
    refine (LV.out _).mono ?_
    rintro e w7 ⟨rfl, t7⟩
    have T7 := Lib.hid (Still.trans (Still.trans ST.out T6.out) t7)
    clear t7
    go_wp2_with fail
    go_ret
    exact ⟨rfl, T7.out⟩
end Go.Proofs.Ytjihnagoebhinaa
