/- Contracts: the document's own answer: whether a chunk ends, how long the first one is. It proves no statement. -/
import Derived.Test.YtjihnagoebhinaaCtCheck
import Derived.Test.YtjihnagoebhinaaRRlSum
import Derived.Deep.RegionHeld3
namespace Go.Proofs.Ytjihnagoebhinaa
open Go.RowKit
set_option linter.unusedVariables false
set_option linter.unusedSimpArgs false

theorem mask_k {k : Nat} (h : k ≤ 20) : 2 ^ k ≤ 1048576 := by
  have := Nat.pow_le_pow_right (show 0 < 2 by omega) h
  simpa using this
set_option maxRecDepth 100000 in
set_option maxHeartbeats 3200000 in
theorem rends_any (s : Shp) (hs : s.Ok) (A : Option Addr) (n c : Nat) (l : List UInt8) (w : World) (B : Nat) (h : Reads w B A n l) (hB : B ≤ w.heap.size) (hnc : n ≤ c) (hn : n ≤ 140737488355328) :
    Calls Try.prog 30 #[.agg #[.int .i64 (s.lt : Nat), .int .i64 (s.mt : Nat), .int .i64 (s.k : Nat), .int .i64 (s.n : Nat), .int .u32 (s.seed : Nat)], .slice A n c] w fun e w' => e = .returned (.bool (endS s l)) ∧ Still w w' := by
  have hl := h.1
  have st := (Still.refl w).alloc (Nat.le_refl _) (.cells #[.int .i64 (s.lt : Nat), .int .i64 (s.mt : Nat), .int .i64 (s.k : Nat), .int .i64 (s.n : Nat), .int .u32 (s.seed : Nat)] 24)
  have hb := Blk.new w 24 #[.int .i64 (s.lt : Nat), .int .i64 (s.mt : Nat), .int .i64 (s.k : Nat), .int .i64 (s.n : Nat), .int .u32 (s.seed : Nat)]
  have b0 := hb.cell 0
  have b1 := hb.cell 1
  have b2 := hb.cell 2
  have b3 := hb.cell 3
  have b4 := hb.cell 4
  simp only [List.getElem?_toArray, List.getElem?_cons_succ, List.getElem?_cons_zero] at b0 b1 b2 b3 b4
  have OK := Lib.hid hs
  have ST := Lib.hid st
  unfold endS
  rw [hl]
  obtain ⟨lt, mt, k, m, seed⟩ := s
  simp only at *
  by_cases h1 : n = mt
  · subst h1
    simp only [decide_true, Bool.true_or]
    clear b0 b2 b3 b4 hb st hs h
    go_enter Try.func30, Try.ntmps30
    go_wp2_with fail
    (try simp only [Exit.inBlock, Exit.then])
    go_ret
    exact ⟨rfl, ST.out⟩
  have g1 : ((n : Int) == (mt : Int)) = false := by rw [beq_eq_false_iff_ne]; omega
  have g1' : ¬ (n : Int) = (mt : Int) := by omega
  by_cases h2 : lt ≤ n
  · have hm : m ≤ lt := hs.nlt
    have hm1 : 1 ≤ m := hs.n1
    have g2 : ¬ (n : Int) < (lt : Int) := by omega
    have hk := mask_k (k := k) hs.k20
    have hp0 := Nat.two_pow_pos k
    have hd := h.dropk (k := n - m) (by omega)
    rw [show n - (n - m) = m by omega] at hd
    have hlast : lastL m l = l.drop (n - m) := by unfold lastL; rw [hl]
    rw [hlast]
    obtain ⟨b, o, rfl, hbb, hcc⟩ := h.at_ (by omega)
    simp only [Option.map_some, Addr.add_lit] at hd
    obtain ⟨t, ht⟩ : ∃ t, t = n - m := ⟨_, rfl⟩
    rw [← ht] at hd ⊢
    have s1 : IntKind.i64.wrap ((n : Int) - (m : Int)) = (t : Int) := by rw [IntKind.wrap_i64]; omega
    have s2 : t ≤ n := by omega
    have s3 : (t : Int) ≤ (n : Int) := by omega
    have s4 : ¬ c = t := by omega
    have s5 : n - t = m := by omega
    have HD := Lib.hid (hd.below (st.mono hB))
    have HS := Lib.hid (fun i => rsum_any seed (some ⟨b, o + t, none⟩) m (c - t) (l.drop t) ((w.alloc (.cells #[.int .i64 (lt : Nat), .int .i64 (mt : Nat), .int .i64 (k : Nat), .int .i64 (m : Nat), .int .u32 (seed : Nat)] 24)).drewN i) B (HD.out.keep fun _ _ => rfl) hs.seed (by omega))
    have HX := Lib.hid (sm_lt seed (l.drop t))
    obtain ⟨x, hx⟩ : ∃ x, x = sm seed (l.drop t) := ⟨_, rfl⟩
    rw [← hx] at HS HX ⊢
    have HK := Lib.hid (And.intro hk hp0)
    simp only [h1, h2, decide_true, decide_false, Bool.true_and, Bool.false_or]
    obtain ⟨R, hR⟩ : ∃ R, R = decide (x % 2 ^ k = 0) := ⟨_, rfl⟩
    rw [← hR]
    have HRR := Lib.hid hR
    clear hR
    clear hb st hs h hm hm1 hlast hcc hbb hd ht hk hp0 hx hl
    go_enter Try.func30, Try.ntmps30
    go_wp2_with fail
    go_loop [5, 6] (fun t i => ∃ j : Nat, j ≤ k ∧ i = .int .i64 j ∧ ∃ y : Nat, t = .int .u32 y ∧ Hid (y = 2 ^ j)) (fun _ i => k - (intOf i).toNat)
    case atStart => exact ⟨0, Nat.zero_le _, rfl, 1, rfl, rfl⟩
    case round =>
      obtain ⟨j, hj, rfl, y, rfl, hy⟩ := hrel
      by_cases hlt : j < k
      · have z1 : (j : Int) < (k : Int) := by omega
        obtain ⟨y2, hy2⟩ : ∃ y2, y2 = y * 2 := ⟨_, rfl⟩
        have e2 : y2 = 2 ^ (j + 1) := by rw [hy2, hy.out, Nat.pow_succ]
        have e3 : y2 ≤ 1048576 := by
          rw [e2]
          exact Nat.le_trans (Nat.pow_le_pow_right (show 0 < 2 by omega) (show j + 1 ≤ k by omega)) HK.out.1
        have z2 : IntKind.u32.wrap ((y : Int) * 2) = (y2 : Int) := by
          rw [IntKind.wrap_u32']
          omega
        have z3 : IntKind.i64.wrap ((j : Int) + 1) = (j : Int) + 1 := by have := OK.out.k20; simp only at this; rw [IntKind.wrap_i64]; omega
        have E2 := Lib.hid e2
        clear hy2 e3 e2
        go_wp2_with fail
        go_round
        case rel => exact ⟨j + 1, by omega, by go_num, y2, rfl, E2⟩
        case measure => simp [intOf]; omega
      · obtain rfl : j = k := by omega
        have hne : ¬ y = 0 := by have := HK.out; have := hy.out; omega
        have q1 : ((x : Int)).tmod (y : Int) = ((x % y : Nat) : Int) := by rw [Int.tmod_eq_emod_of_nonneg (by omega)]; simp
        have q2 : IntKind.u32.wrap ((x % y : Nat) : Int) = ((x % y : Nat) : Int) := by
          have := HX.out
          have := Nat.mod_le x y
          rw [IntKind.wrap_u32']; omega
        have q3 : ¬ (y : Int) = 0 := by omega
        have hr := HRR.out
        rw [← hy.out] at hr
        clear hy
        by_cases hz : x % y = 0
        · rw [hz] at q1 q2
          rw [hz] at hr
          have hr2 : R = true := hr
          subst hr2
          clear hz hr HRR
          go_wp2_with fail
          go_quiet ((go_at_call 37; exact Calls.quiet_of_same ((HS.out _).mono fun _ _ h => ⟨h.1, h.2.symm⟩)))
          go_wp2_with fail
          go_ret
          exact ⟨rfl, still_drewN ST.out _⟩
        · have q4 : (((x % y : Nat) : Int) == 0) = false := by rw [beq_eq_false_iff_ne]; omega
          have hr2 : R = false := by rw [hr]; exact decide_eq_false hz
          subst hr2
          obtain ⟨u, hu⟩ : ∃ u, u = x % y := ⟨_, rfl⟩
          rw [← hu] at q1 q2 q4 hz
          have q5 : ¬ (u : Int) = 0 := by omega
          have HU := Lib.hid hu
          clear hu hr HRR
          go_wp2_with fail
          go_quiet ((go_at_call 37; exact Calls.quiet_of_same ((HS.out _).mono fun _ _ h => ⟨h.1, h.2.symm⟩)))
          go_wp2_with fail
          go_ret
          exact ⟨rfl, still_drewN ST.out _⟩
  · have g2 : (n : Int) < (lt : Int) := by omega
    simp only [h1, h2, decide_false, Bool.false_and, Bool.or_false]
    clear hb st hs h b2 b3 b4
    go_enter Try.func30, Try.ntmps30
    go_wp2_with fail
    (try simp only [Exit.inBlock, Exit.then])
    go_ret
    exact ⟨rfl, ST.out⟩
end Go.Proofs.Ytjihnagoebhinaa
