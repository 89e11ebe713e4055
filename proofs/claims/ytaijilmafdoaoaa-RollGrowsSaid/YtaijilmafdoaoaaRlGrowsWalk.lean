/- Walk: RollGrows. It proves no statement. -/
import Derived.Test.YtaijilmafdoaoaaRlLives
import Derived.Test.YtaijilmafdoaoaaRTurn
import Derived.Laws.OwnMore
namespace Go.Proofs.Ytaijilmafdoaoaa
open Go.RowKit
set_option linter.unusedVariables false
set_option linter.unusedSimpArgs false

theorem own_litB (w : World) (base : Nat) (b : UInt8) (hb : base ≤ w.heap.size) : (w.alloc (.cells #[.int .u8 (b.toNat : Int)] 5)).ownsRow base 5 1 (.slice (some ⟨w.heap.size, 0, none⟩) 1 1) 1 (bytesV [b]) :=
  World.ownsRow_lit w #[.int .u8 (b.toNat : Int)] 1 hb (by unfold maxLen; omega) rfl
set_option maxRecDepth 100000 in
set_option maxHeartbeats 1600000 in
theorem rollGrows_walk (seed : Nat) (c : UInt8) (a2 : Option Addr) (len2 cap2 : Nat) (z2 : List Int) (w : World) (hs : seed < 4294967296) (h : RowIn .u8 w a2 len2 cap2 z2) :
    Calls Try.prog 7 #[.int .u32 seed, .int .u8 (c.toNat : Nat), .slice a2 len2 cap2] w fun e w' => e = .returned (.bool true) ∧ Still w w' := by
  obtain ⟨n, l, rl, hn, hcut⟩ := cut_row h 200 (by omega)
  have hl : l.length = n := rl.reads.1
  have C1 := Lib.hid hcut
  have RL := Lib.hid rl
  have W1 := Lib.hid (word_any seed c.toNat w hs c.toNat_lt)
  have SM := Lib.hid (sum_any seed a2 n cap2 l w _ rl.reads hs (by omega))
  have e1 : sm seed (c :: l) = sm seed l ^^^ rotl 32 (wd seed c.toNat) (n % 32) := by rw [sm_cons, hl, Nat.xor_comm]
  have e2 : sm seed (l ++ [c]) = rotl 32 (sm seed l) 1 ^^^ wd seed c.toNat := sm_snoc seed l c
  have SA := Lib.hid (fun W B A cp (r : Reads W B A (1 + n) (c :: l)) => sum_any seed A (1 + n) cp (c :: l) W B r hs (by omega))
  have SB := Lib.hid (fun W B A cp (r : Reads W B A (n + 1) (l ++ [c])) => sum_any seed A (n + 1) cp (l ++ [c]) W B r hs (by omega))
  have hq := wd_lt seed c.toNat
  have hr := sm_lt seed l
  have T1 := Lib.hid (fun W => rturn_any (wd seed c.toNat) 32 (n : Int) W (.inr rfl) hq)
  have T2 := Lib.hid (fun W => rturn_any (sm seed l) 32 (1 : Int) W (.inr rfl) hr)
  rw [show ((n : Int) % ((32 : Nat) : Int)).toNat = n % 32 by omega] at T1
  rw [show ((1 : Int) % ((32 : Nat) : Int)).toNat = 1 by decide] at T2
  rw [e1] at SA
  rw [e2] at SB
  generalize wd seed c.toNat = q at *
  generalize sm seed l = r at *
  have hq1 := rotl_lt 32 q (n % 32) hq
  have hr1 := rotl_lt 32 r 1 hr
  generalize rotl 32 q (n % 32) = q1 at *
  generalize rotl 32 r 1 = r1 at *
  have x1 := u64_xor_nat r q1 (by omega) (by omega)
  have x2 := u64_xor_nat r1 q (by omega) (by omega)
  have y1 : r ^^^ q1 < 4294967296 := Nat.xor_lt_two_pow (n := 32) hr hq1
  have y2 : r1 ^^^ q < 4294967296 := Nat.xor_lt_two_pow (n := 32) hr1 hq
  generalize r ^^^ q1 = p1 at *
  generalize r1 ^^^ q = p2 at *
  have v1 : IntKind.u64.wrap (q : Int) = (q : Int) := u64_wrap_natT _ (by omega)
  have v2 : IntKind.u64.wrap (r : Int) = (r : Int) := u64_wrap_natT _ (by omega)
  have v3 : IntKind.u64.wrap (p1 : Int) = (p1 : Int) := u64_wrap_natT _ (by omega)
  have v4 : IntKind.u64.wrap (p2 : Int) = (p2 : Int) := u64_wrap_natT _ (by omega)
  have OL := Lib.hid (own_litB w w.heap.size c (Nat.le_refl _))
  have RC1 := Lib.hid (rl.reads.still (Nat.le_refl _) ((Still.refl w).alloc (Nat.le_refl _) (.cells #[.int .u8 (c.toNat : Int)] 5)))
  have SL := Lib.hid (show Still w (w.alloc (.cells #[.int .u8 (c.toNat : Int)] 5)) from (Still.refl w).alloc (Nat.le_refl _) _)
  have hcap := rl.fit
  have hcm := rl.cap
  have hnil : a2 = none → cap2 = 0 := fun e => (rl.nil e).2
  have HN := Lib.hid hnil
  obtain ⟨cn, hcn⟩ : ∃ cn, cn = c.toNat := ⟨_, rfl⟩
  have HCN := Lib.hid hcn
  rw [← hcn] at W1 OL RC1 SL ⊢
  clear hcut rl h e1 e2 hnil hcn hq hr
  go_enter Try.func7, Try.ntmps7
  go_wp2_with fail
  refine C1.out.mono ?_
  rintro e w1 ⟨rfl, rfl⟩
  go_wp2_with fail
  refine W1.out.mono ?_
  rintro e w1 ⟨rfl, rfl⟩
  go_wp2_with fail
  refine SM.out.mono ?_
  rintro e w1 ⟨rfl, rfl⟩
  go_wp2_with (at_builtin; go_must (refine wpList_adds _ rfl _ _ rfl w.heap.size _ 1 [c] rfl OL.out a2 n cap2 w.heap.size l rfl RC1.out HN.out ?c1 ?c2 ?_))
  case c1 => omega
  case c2 => simp
  intro va w2 own2 gr2 _
  have s2 : Still w w2 := SL.out.grown gr2 (by simp) (fun k hk => by simp [Value.ownBlock] at hk; omega)
  obtain ⟨A2, k2, rfl, _, _, _⟩ := own_form own2
  have r2 := Reads.of_own own2
  have r2b : Reads w2 w2.heap.size A2 (1 + n) (c :: l) := r2
  have CP := Lib.hid (copy_any a2 n cap2 l w2 _ (RL.out.reads.still (Nat.le_refl _) s2) (by omega) (fun e => RL.out.nil e))
  have R2 := Lib.hid r2b
  have S2 := Lib.hid s2
  clear own2 gr2 r2 r2b s2 OL RC1 SL C1 W1 SM
  go_wp2_with fail
  refine CP.out.mono ?_
  rintro e w3 ⟨⟨vb, rfl, own3⟩, s3⟩
  have R3 := Lib.hid (R2.out.still (Nat.le_refl _) s3)
  have S3 := Lib.hid (S2.out.trans s3)
  have Z3 := Lib.hid s3.size
  have O3 := Lib.hid own3
  obtain ⟨A3, k3, rfl, _, _, _⟩ := own_form own3
  clear own3 s3 CP R2
  go_wp2_with (at_builtin; go_must (refine wpList_push _ rfl _ _ rfl w2.heap.size _ n l rfl O3.out _ c rfl (by rw [HCN.out]) ?c3 ?c4 ?_))
  case c3 => omega
  case c4 => exact Z3.out
  intro vb w4 own4 gr4 _
  have s4 : Below w2.heap.size w3 w4 := (Below.refl _ _).grown gr4 Z3.out (fun k hk => by
    have := O3.out.2
    rcases this with ⟨h1, _⟩ | ⟨g, cap, cur, h1, h2, _⟩
    · rw [h1] at hk; simp [Value.ownBlock] at hk
    · rw [h1] at hk; simp [Value.ownBlock] at hk; omega)
  have R4 := Lib.hid (R3.out.below s4)
  have S4 := Lib.hid (Below.trans S3.out (s4.mono S2.out.size))
  obtain ⟨A4, k4, rfl, _, _, _⟩ := own_form own4
  have R5 := Lib.hid (Reads.of_own own4)
  clear own4 gr4 s4 O3 S3 R3
  go_wp2_with fail
  refine (SA.out _ _ _ _ R4.out).mono ?_
  rintro e w5 ⟨rfl, rfl⟩
  go_wp2_with fail
  refine (T1.out _).mono ?_
  rintro e w5 ⟨rfl, rfl⟩
  go_wp2_with fail
  refine (SB.out _ _ _ _ R5.out).mono ?_
  rintro e w5 ⟨rfl, rfl⟩
  go_wp2_with fail
  refine (T2.out _).mono ?_
  rintro e w5 ⟨rfl, rfl⟩
  go_wp2_with fail
  refine (lives_any _).mono ?_
  rintro e w5 ⟨rfl, s5⟩
  go_wp2_with fail
  go_ret
  exact ⟨rfl, Still.trans S4.out s5⟩
end Go.Proofs.Ytaijilmafdoaoaa
