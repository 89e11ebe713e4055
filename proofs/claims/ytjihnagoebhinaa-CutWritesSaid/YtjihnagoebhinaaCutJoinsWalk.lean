/- The walk of CutJoins: it returns true, and nothing that was there turns. -/
import Derived.Test.YtjihnagoebhinaaCutSizesWalk
import Derived.Test.YtjihnagoebhinaaAdds
namespace Go.Proofs.Ytjihnagoebhinaa
open Go.RowKit
set_option linter.unusedVariables false
set_option linter.unusedSimpArgs false

theorem flat_take (L : List (List UInt8)) (k : Nat) (hk : k < L.length) : (L.take (k + 1)).flatten = (L.take k).flatten ++ L.getD k [] := by
  rw [show L.take (k + 1) = L.take k ++ [L[k]] by rw [List.take_add_one]; simp [hk], List.flatten_append]
  simp [List.getD, hk]
theorem flat_take_le (L : List (List UInt8)) (k : Nat) : (L.take k).flatten.length ≤ L.flatten.length := by
  have : L.flatten = (L.take k).flatten ++ (L.drop k).flatten := by rw [← List.flatten_append, List.take_append_drop]
  rw [this, List.length_append]
  omega
set_option maxRecDepth 100000 in
set_option maxHeartbeats 3200000 in
theorem cutJoins_walk (x y z u sd : Int) (a1 : Option Addr) (len1 cap1 : Nat) (z1 : List Int) (w : World) (hsd : 0 ≤ sd ∧ sd ≤ 4294967295) (h : RowIn .u8 w a1 len1 cap1 z1) :
    Calls Try.prog 5 #[.agg #[.int .i64 x, .int .i64 y, .int .i64 z, .int .i64 u, .int .u32 sd], .slice a1 len1 cap1] w fun e w' => e = .returned (.bool true) ∧ Below w.heap.size w w' := by
  have st := (Still.refl w).alloc (Nat.le_refl _) (.cells #[.int .i64 x, .int .i64 y, .int .i64 z, .int .i64 u, .int .u32 sd] 24)
  have hb := Blk.new w 24 #[.int .i64 x, .int .i64 y, .int .i64 z, .int .i64 u, .int .u32 sd]
  obtain ⟨l0, r0, hc0, hm0, hA0⟩ := reads_of_row h
  have HCU := Lib.hid (cut_any a1 len1 cap1 3000 l0 _ w.heap.size (r0.still (Nat.le_refl _) st) hc0 hm0 (by omega))
  obtain ⟨n, hn⟩ : ∃ n, n = min len1 3000 := ⟨_, rfl⟩
  obtain ⟨l, hl⟩ : ∃ l, l = l0.take 3000 := ⟨_, rfl⟩
  have rs : RowS w w.heap.size a1 n cap1 l := ⟨by rw [hn, hl]; exact r0.take 3000, by omega, hm0, fun e => ⟨by have := (hA0 e).1; omega, (hA0 e).2⟩⟩
  rw [← hn] at HCU
  have hn4 : n ≤ 3000 := by omega
  have RS := Lib.hid rs
  have LV := Lib.hid (fun W => lives_any W)
  have ST := Lib.hid st
  have BXH := Lib.hid (fun (W : World) (t : Still (w.alloc (.cells #[.int .i64 x, .int .i64 y, .int .i64 z, .int .i64 u, .int .u32 sd] 24)) W) => hb.still t)
  clear st hb h r0 hc0 hm0 hA0 hn hl rs
  by_cases hok : okZ x y z u = true
  · obtain ⟨s, hs, rfl, rfl, rfl, rfl, rfl⟩ := shp_of hok hsd.1 hsd.2
    have OK := Lib.hid hs
    have HSP := Lib.hid (split_yes s hs a1 n cap1 l _ (((RowP.of_rowS RS.out (Nat.le_refl _)).still ST.out).mono (fun _ _ _ => trivial)) (by omega))
    clear hs hok hsd
    go_enter Try.func5, Try.ntmps5
    go_wp2_with fail
    refine HCU.out.mono ?_
    rintro e w1 ⟨rfl, rfl⟩
    go_wp2_with fail
    refine HSP.out.mono ?_
    rintro e w3 ⟨lv, xs, rfl, o3, r3, t3⟩
    obtain ⟨Al, cl, rfl, hl1, hl2, hl3⟩ := own_formB o3
    have RL := Lib.hid (RowsR.of_own o3 r3)
    have T3 := Lib.hid t3
    obtain ⟨M, hM⟩ : ∃ M, M = (chunks s l).length := ⟨_, rfl⟩
    rw [← hM] at RL ⊢
    have HM := Lib.hid hM
    have HLN := Lib.hid (show l.length ≤ 3000 by have := RS.out.reads.1; omega)
    have hM3 : M ≤ 3000 := by have := chunks_len s l; have := HLN.out; omega
    clear t3 o3 r3 HSP HCU hM hl1 hl2 hl3
    go_wp2_with fail
    go_loopw [7, 8] (fun av iv wr => ∃ (k : Nat) (v : Value), av = v ∧ iv = .int .i64 k ∧ k ≤ M ∧ Hid (Still w3 wr ∧ wr.ownsRow w3.heap.size 5 1 v ((chunks s l).take k).flatten.length (bytesV ((chunks s l).take k).flatten))) (fun _ iv _ => M - (intOf iv).toNat)
    case atStart => exact ⟨0, _, rfl, rfl, Nat.zero_le _, Lib.hid ⟨Still.refl _, by simpa [bytesV_nil] using World.ownsRow_nil w3 w3.heap.size 5 1⟩⟩
    case round =>
      obtain ⟨k, v, rfl, rfl, hk, hin⟩ := hrel
      by_cases hlt : k < M
      · have hlt2 : k < (chunks s l).length := by have := HM.out; omega
        obtain ⟨g2, o2, rfl, _, _, hat⟩ := (RL.out.still hin.out.1).at_ (by omega)
        obtain ⟨A', n', c', d2, p2⟩ := hat k hlt
        have hsz := chunk_size s OK.out l k hlt2
        rw [p2.len] at hsz
        have HBX := BXH.out wr (Still.trans T3.out hin.out.1)
        have b0 := HBX.cell 0
        have b1 := HBX.cell 1
        simp only [List.getElem?_toArray, List.getElem?_cons_succ, List.getElem?_cons_zero] at b0 b1
        have q1 : (0 : Int) ≤ (k : Int) := by omega
        have q2 : (k : Int) < (M : Int) := by omega
        have q3 : ¬ (n' : Int) < 1 := by omega
        have q4 : ¬ (s.mt : Int) < (n' : Int) := by omega
        have q5 : IntKind.i64.wrap ((M : Int) - 1) = (M : Int) - 1 := by rw [IntKind.wrap_i64]; omega
        have hfl := flat_take (chunks s l) k hlt2
        have hle := flat_take_le (chunks s l) (k + 1)
        rw [chunks_join] at hle
        obtain ⟨X, hX⟩ : ∃ X, X = (chunks s l).getD k [] := ⟨_, rfl⟩
        rw [← hX] at p2 hfl
        clear hX
        obtain ⟨T, hT⟩ : ∃ T, T = ((chunks s l).take k).flatten := ⟨_, rfl⟩
        obtain ⟨T1, hT1⟩ : ∃ T1, T1 = ((chunks s l).take (k + 1)).flatten := ⟨_, rfl⟩
        rw [← hT, ← hT1] at hfl
        rw [← hT1] at hle
        have hTT := hin.out.2
        rw [← hT] at hTT
        have hTl : T1.length = T.length + n' := by rw [hfl, List.length_append, p2.len]
        have O1 := Lib.hid hTT
        have P2 := Lib.hid p2
        have HFL := Lib.hid (And.intro hfl hTl)
        have HT1 := Lib.hid hT1
        have HAD : T.length + n' ≤ 140737488355328 := by have := HLN.out; omega
        have HLT := Lib.hid hlt
        have HBS := Lib.hid hin.out.1.size
        have HNI := Lib.hid (show A' = none → c' = 0 from fun e => (p2.nil e).2)
        clear hat p2 hlt hlt2 HBX hTT hfl hT hT1 hle hTl
        by_cases hlast : k + 1 < M
        · have q6 : (k : Int) < (M : Int) - 1 := by omega
          have q7 : ¬ (n' : Int) < (s.lt : Int) := by have := hsz.2.2 (by have := HM.out; omega); omega
          clear hlast hsz
          go_wp2_with (at_builtin; go_must (refine wpList_adds _ rfl _ _ rfl w3.heap.size _ _ T rfl O1.out _ n' c' _ _ rfl P2.out.reads HNI.out HAD HBS.out ?_))
          intro v' w4 o4 g4 _
          have s4 := still_push hin.out.1 O1.out (Nat.le_refl _) g4
          rw [← HFL.out.1, ← HFL.out.2] at o4
          have H4 := Lib.hid (And.intro s4 o4)
          clear s4 o4 g4 b0 b1 d2
          rw [HT1.out] at H4
          go_wp2_with fail
          go_roundw
          case rel => exact ⟨k + 1, v', rfl, by go_num, by have := HLT.out; omega, H4⟩
          case measure => simp [intOf]; have := HLT.out; omega
        · have q6 : ¬ (k : Int) < (M : Int) - 1 := by have := HLT.out; omega
          clear hlast hsz
          go_wp2_with (at_builtin; go_must (refine wpList_adds _ rfl _ _ rfl w3.heap.size _ _ T rfl O1.out _ n' c' _ _ rfl P2.out.reads HNI.out HAD HBS.out ?_))
          intro v' w4 o4 g4 _
          have s4 := still_push hin.out.1 O1.out (Nat.le_refl _) g4
          rw [← HFL.out.1, ← HFL.out.2] at o4
          have H4 := Lib.hid (And.intro s4 o4)
          clear s4 o4 g4 b0 b1 d2
          rw [HT1.out] at H4
          go_wp2_with fail
          go_roundw
          case rel => exact ⟨k + 1, v', rfl, by go_num, by have := HLT.out; omega, H4⟩
          case measure => simp [intOf]; have := HLT.out; omega
      · obtain rfl : k = M := by omega
        have ho := hin.out.2
        rw [HM.out, List.take_of_length_le (Nat.le_refl _), chunks_join] at ho
        obtain ⟨Aa, ca, rfl, ha1, ha2, ha3⟩ := own_form ho
        have RA := Lib.hid (RowP.of_own ho)
        have RB := Lib.hid (((RowP.of_rowS RS.out (Nat.le_refl _)).still ST.out).still (Still.trans T3.out hin.out.1))
        have HSB := Lib.hid (same_any Aa a1 l.length n ca cap1 l l wr _ _ RA.out.reads RB.out.reads (by have := HLN.out; omega) (by omega))
        rw [decide_eq_true rfl] at HSB
        clear ho
        go_wp2_with fail
        refine HSB.out.mono ?_
        rintro e w5 ⟨rfl, t5⟩
        have T5 := Lib.hid (Still.trans hin.out.1 t5)
        clear t5
        go_wp2_with fail
        refine (LV.out _).mono ?_
        rintro e w10 ⟨rfl, t10⟩
        have T10 := Lib.hid (Still.trans ST.out (Still.trans T3.out (Still.trans T5.out t10)))
        clear t10
        go_wp2_with fail
        go_ret
        exact ⟨rfl, T10.out⟩
  · have hno : okZ x y z u = false := by cases h : okZ x y z u with | false => rfl | true => exact absurd h hok
    clear hok
    go_enter Try.func5, Try.ntmps5
    go_wp2_with fail
    refine HCU.out.mono ?_
    rintro e w1 ⟨rfl, rfl⟩
    go_wp2_with fail
    refine (split_no x y z u sd _ _ hno).mono ?_
    rintro e w3 ⟨rfl, t3⟩
    have T3 := Lib.hid t3
    clear t3
    go_wp2_with fail
    refine (LV.out _).mono ?_
    rintro e w7 ⟨rfl, t7⟩
    have T7 := Lib.hid (Still.trans (Still.trans ST.out T3.out) t7)
    clear t7
    go_wp2_with fail
    go_ret
    exact ⟨rfl, T7.out⟩
end Go.Proofs.Ytjihnagoebhinaa
