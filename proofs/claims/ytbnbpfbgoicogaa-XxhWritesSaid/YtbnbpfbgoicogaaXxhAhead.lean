/- Contract: the document's own answer for XXH64, of 32 bytes or more. It proves no statement. -/
import Derived.Test.YtbnbpfbgoicogaaXxhRef
import Derived.Deep.RegionHeld3
import Derived.BigQuiet
import Derived.BigFrame
import Derived.StillTailTactics
namespace Go.Proofs.Ytbnbpfbgoicogaa
open Go.RowKit
set_option linter.unusedVariables false
set_option linter.unusedSimpArgs false

set_option maxRecDepth 100000 in
set_option maxHeartbeats 1600000 in
theorem rahead_any (A : Option Addr) (n c : Nat) (l : List UInt8) (seed : Nat) (w : World) (B : Nat) (h : Reads w B A n l) (hB : B ≤ w.heap.size) (hn : n ≤ 70368744177664) (hnc : n ≤ c) (hs : seed < m64) :
    Calls Try.prog 20 #[.slice A n c, .int .u64 seed] w fun e w' => e = .returned (.int .u64 (xHead (fun k => xRun (xLane0 seed k) k l (n / 32)) : Nat)) ∧ Still w w' := by
  obtain ⟨F, hF⟩ : ∃ F : Nat → Nat → Nat, F = fun k m => xRun (xLane0 seed k) k l m := ⟨_, rfl⟩
  have HF := Lib.hid hF
  have p1 := rprime1 w
  have p2 := rprime2 w
  have f0 : F 0 0 = (seed + xP1 + xP2) % m64 := by rw [hF]; exact xLane0_0 seed
  have f1 : F 1 0 = (seed + xP2) % m64 := by rw [hF]; exact xLane0_1 seed
  have f2 : F 2 0 = seed := by rw [hF]; exact xLane0_2 seed
  have f3 : F 3 0 = (seed + (m64 - xP1)) % m64 := by rw [hF]; exact xLane0_3 seed
  have hm1 : xP1 ≤ m64 := by decide
  clear hF
  generalize xP1 = P1 at *
  generalize xP2 = P2 at *
  have e1 : IntKind.u64.wrap (IntKind.u64.wrap ((seed : Int) + (P1 : Nat)) + (P2 : Nat)) = ((F 0 0 : Nat) : Int) := by
    rw [f0, wrap_add, wrap_add, Nat.mod_add_mod]
  have e2 : IntKind.u64.wrap ((seed : Int) + (P2 : Nat)) = ((F 1 0 : Nat) : Int) := by rw [f1, wrap_add]
  have e4 : IntKind.u64.wrap ((seed : Int) - (P1 : Nat)) = ((F 3 0 : Nat) : Int) := by rw [f3, wrap_sub _ _ hm1]
  have e3 : F 2 0 = seed := f2
  clear f0 f1 f2 f3 hm1
  obtain ⟨q, hq⟩ : ∃ q, q = n / 32 := ⟨_, rfl⟩
  rw [← hq]
  have K1 := Lib.hid p1
  have K2 := Lib.hid p2
  clear p1 p2
  go_enter Try.func20, Try.ntmps20
  go_wp2_with fail
  refine K1.out.mono ?_
  rintro e w1 ⟨rfl, rfl⟩
  go_wp2_with fail
  refine K2.out.mono ?_
  rintro e w1 ⟨rfl, rfl⟩
  go_wp2_with fail
  refine K2.out.mono ?_
  rintro e w1 ⟨rfl, rfl⟩
  go_wp2_with fail
  refine K1.out.mono ?_
  rintro e w1 ⟨rfl, rfl⟩
  go_wp2_with fail
  rw [← e3]
  have own0 : (w.alloc (.cells (wordsV (laneVals F q 0 0)).toArray 23)).ownsRow w.heap.size 23 1 (.slice (some ⟨w.heap.size, 0, none⟩) 4 4) 4 (wordsV (laneVals F q 0 0)) := by
    refine ⟨by simp [laneVals, wordsV], .inr ⟨w.heap.size, 4, _, rfl, Nat.le_refl _, heap_alloc_new w _, Nat.le_refl _, by unfold maxLen; omega, by simp [laneVals, wordsV], by simp [laneVals, wordsV]⟩⟩
  rw [laneVals_start] at own0
  have st0 : Still w (w.alloc (.cells (wordsV [F 0 0, F 1 0, F 2 0, F 3 0]).toArray 23)) := (Still.refl w).alloc (Nat.le_refl _) _
  go_loopw [6] (fun i wr => ∃ k : Nat, i = .int .i64 k ∧ k ≤ 4 ∧ wr.ownsRow w.heap.size 23 1 (.slice (some ⟨w.heap.size, 0, none⟩) 4 4) 4 (wordsV (laneVals F q k 0)) ∧ Still w wr) (fun i _ => 4 - (intOf i).toNat)
  case atStart =>
    refine ⟨0, rfl, by omega, ?_, ?_⟩
    · rw [laneVals_start]; exact own0
    · exact st0
  case round =>
    obtain ⟨k, rfl, hk, own, st⟩ := hrel
    by_cases hk4 : k < 4
    · have d7 : (k : Int) < 4 := by omega
      go_wp2_with fail
      go_loopw [7] (fun i wr => ∃ m : Nat, i = .int .i64 ((8 * k + 32 * m : Nat) : Int) ∧ m ≤ q ∧ wr.ownsRow w.heap.size 23 1 (.slice (some ⟨w.heap.size, 0, none⟩) 4 4) 4 (wordsV (laneVals F q k m)) ∧ Still w wr) (fun i _ => 32 * q + 32 - (intOf i).toNat)
      case atStart => exact ⟨0, by go_num, by omega, own, st⟩
      case round =>
        obtain ⟨m, rfl, hm, own, st⟩ := hrel
        by_cases hmq : m < q
        · obtain ⟨b, o, rfl, hb, hc⟩ := h.at_ (by omega)
          obtain ⟨t, ht⟩ : ∃ t, t = 8 * k + 32 * m := ⟨_, rfl⟩
          rw [← ht]
          have d1 : decide ((t : Int) + 8 ≤ (n : Int) / 32 * 32) = true := by simp; omega
          have d2 : ((t : Int) + 8 ≤ (n : Int) / 32 * 32) := by omega
          have d3 : (0 : Int) ≤ (t : Int) := by omega
          have d4 : ((t : Int) + 8 ≤ (c : Int)) := by omega
          have d5 : IntKind.i64.wrap ((t : Int) + 8) = (t : Int) + 8 := by rw [IntKind.wrap_i64]; omega
          have d8 : IntKind.i64.wrap ((n : Int) / 32 * 32) = (n : Int) / 32 * 32 := by rw [IntKind.wrap_i64]; omega
          have d9 : ((t : Int) + 8).toNat = t + 8 := by omega
          have d10 : t + 8 - t = 8 := by omega
          have d11 : ¬ c = t := by omega
          have d12 : (0 : Int) ≤ (t : Int) + 8 := by omega
          have d13 : t ≤ t + 8 := by omega
          have d14 : IntKind.i64.wrap ((t : Int) + 32) = (t : Int) + 32 := by rw [IntKind.wrap_i64]; omega
          have d6 : (0 : Int) ≤ (k : Int) := by omega
          obtain ⟨v, hv⟩ : ∃ v, v = F k m := ⟨_, rfl⟩
          obtain ⟨x, hx⟩ : ∃ x, x = xWord l t := ⟨_, rfl⟩
          have hcell : wr.cell? ⟨w.heap.size, k, none⟩ = some (.int .u64 (v : Int)) := by
            rw [own.cellAt k (by omega), wordsV_get _ _ _ (laneVals_get F q k m hk4), hv]
          have hfro : wr.frozen? ⟨w.heap.size, k, none⟩ = false := own.frozenAt k
          have rw1 := ((h.keep (w' := wr) fun p hp => st.cell (by omega)).dropk (k := t) (by omega)).takek (k := 8) (by omega)
          have rw2 : Reads wr.drew B (some ⟨b, o + t, none⟩) 8 ((l.drop t).take 8) := by
            have r := rw1
            simp only [Option.map_some, Addr.add_lit] at r
            exact r
          have hnum := (rnum_any _ 8 (c - t) _ wr.drew B rw2 (by omega) (by omega)).mono fun e w' h => (⟨h.1, h.2.symm⟩ : e = _ ∧ w' = wr.drew)
          have hw8 : leNum ((l.drop t).take 8) = x := hx.symm
          rw [hw8] at hnum
          have hlane := (rlane_any v x wr.drew).mono fun e w' h => (⟨h.1, h.2.symm⟩ : e = _ ∧ w' = wr.drew)
          have HN := Lib.hid hnum
          have HLN := Lib.hid hlane
          have HV := Lib.hid hv
          have HX := Lib.hid hx
          clear rw1 rw2 hnum hlane hv hx hw8
          have HT := Lib.hid ht
          have hm1 : m + 1 ≤ q := hmq
          have HM := Lib.hid hm1
          have HK := Lib.hid hk4
          clear hm1
          have HQ := Lib.hid hq
          have OW := Lib.hid own
          have ST := Lib.hid st
          have HR := Lib.hid h
          clear hc ht hq own st own0 st0 e1 e2 e3 e4 hmq hm hk hk4 hB hs hb hnc h d1
          go_wp2_with fail
          go_still_tail 14, (by kernel_rfl)
          · still_call HN.out
            repeat still_step
            still_call HLN.out
            repeat still_step
            refine wpStill_nil ?_
            change wpList _ _ _ _ _ wr.drew
            go_wp2_with fail
            go_roundw
            case rel =>
              refine ⟨m + 1, ?_, ?_, ?_, ?_⟩
              · have := HT.out
                go_num
              · exact HM.out
              · have e : F k (m + 1) = xLane v x := by rw [HV.out, HX.out, HT.out, HF.out, Nat.add_comm (8 * k)]; exact xRun_succ _ _ _ _
                have o2 := (OW.out.stored k (.int .u64 ((xLane v x : Nat) : Int))).1
                rw [← e, wordsV_set, laneVals_set F q k m HK.out, e] at o2
                exact o2.drew
              · exact (Below.setCell ST.out (p := ⟨w.heap.size, k, none⟩) (Nat.le_refl _) _).drew
            case measure =>
              have := HM.out
              have := HT.out
              simp [intOf]
              omega
        · obtain rfl : m = q := by omega
          obtain ⟨t, ht⟩ : ∃ t, t = 8 * k + 32 * m := ⟨_, rfl⟩
          rw [← ht]
          have d5 : IntKind.i64.wrap ((t : Int) + 8) = (t : Int) + 8 := by rw [IntKind.wrap_i64]; omega
          have d2 : (n : Int) / 32 * 32 < (t : Int) + 8 := by omega
          have d16 : IntKind.i64.wrap ((k : Int) + 1) = (k : Int) + 1 := by rw [IntKind.wrap_i64]; omega
          have OW := Lib.hid own
          have ST := Lib.hid st
          have hk5 : k + 1 ≤ 4 := hk4
          have HK5 := Lib.hid hk5
          have HK := Lib.hid hk4
          clear ht hq own st own0 st0 e1 e2 e3 e4 hmq hm hk hk4 hk5 hs h hnc hB
          go_wp2_with fail
          · go_roundw
            case rel => exact ⟨k + 1, by go_num, HK5.out, by rw [← laneVals_next F m k HK.out]; exact OW.out, ST.out⟩
            case measure =>
              have := HK.out
              simp [intOf]
              omega
    · obtain rfl : k = 4 := by omega
      rw [show ((4 : Nat) : Int) = 4 from rfl]
      have hFlt : ∀ j, F j q < m64 := fun j => by rw [HF.out]; exact xRun_lt _ _ _ _ (xLane0_lt _ _ hs)
      have c0 : wr.cell? ⟨w.heap.size, 0, none⟩ = some (.int .u64 (F 0 q : Nat)) := by rw [own.cellAt 0 (by omega), laneVals_end]; rfl
      have c1 : wr.cell? ⟨w.heap.size, 1, none⟩ = some (.int .u64 (F 1 q : Nat)) := by rw [own.cellAt 1 (by omega), laneVals_end]; rfl
      have c2 : wr.cell? ⟨w.heap.size, 2, none⟩ = some (.int .u64 (F 2 q : Nat)) := by rw [own.cellAt 2 (by omega), laneVals_end]; rfl
      have c3 : wr.cell? ⟨w.heap.size, 3, none⟩ = some (.int .u64 (F 3 q : Nat)) := by rw [own.cellAt 3 (by omega), laneVals_end]; rfl
      have t0 := fun w => (rturn_any _ 1 w (hFlt 0) (by omega)).mono fun e w' h => (⟨h.1, h.2.symm⟩ : e = _ ∧ w' = w)
      have t1 := fun w => (rturn_any _ 7 w (hFlt 1) (by omega)).mono fun e w' h => (⟨h.1, h.2.symm⟩ : e = _ ∧ w' = w)
      have t2 := fun w => (rturn_any _ 12 w (hFlt 2) (by omega)).mono fun e w' h => (⟨h.1, h.2.symm⟩ : e = _ ∧ w' = w)
      have t3 := fun w => (rturn_any _ 18 w (hFlt 3) (by omega)).mono fun e w' h => (⟨h.1, h.2.symm⟩ : e = _ ∧ w' = w)
      have hH : xHead (fun k => xRun (xLane0 seed k) k l q) = xMixes ((rotl 64 (F 0 q) 1 + rotl 64 (F 1 q) 7 + rotl 64 (F 2 q) 12 + rotl 64 (F 3 q) 18) % m64) (fun k => F k q) 4 := by
        rw [HF.out]; exact xHead_mixes _
      have hcj : ∀ j, j < 4 → wr.cell? ⟨w.heap.size, j, none⟩ = some (.int .u64 (F j q : Nat)) := by
        intro j hj
        rw [own.cellAt j (by omega), laneVals_end]
        obtain rfl | rfl | rfl | rfl : j = 0 ∨ j = 1 ∨ j = 2 ∨ j = 3 := by omega
        all_goals rfl
      have hW : ∀ a b c d : Nat, IntKind.u64.wrap (IntKind.u64.wrap (IntKind.u64.wrap ((a : Int) + (b : Int)) + (c : Int)) + (d : Int)) = (((a + b + c + d) % m64 : Nat) : Int) := by
        intro a b c d
        rw [wrap_add, wrap_add, wrap_add, Nat.mod_add_mod, show (a + b) % m64 + c + d = (a + b) % m64 + (c + d) by omega, Nat.mod_add_mod, Nat.add_assoc (a + b)]
      have hv0 := hW (rotl 64 (F 0 q) 1) (rotl 64 (F 1 q) 7) (rotl 64 (F 2 q) 12) (rotl 64 (F 3 q) 18)
      generalize rotl 64 (F 0 q) 1 = r0 at *
      generalize rotl 64 (F 1 q) 7 = r1 at *
      generalize rotl 64 (F 2 q) 12 = r2 at *
      generalize rotl 64 (F 3 q) 18 = r3 at *
      have hh0 : (r0 + r1 + r2 + r3) % m64 < m64 := Nat.mod_lt _ (by decide)
      generalize (r0 + r1 + r2 + r3) % m64 = h0 at *
      have ST := Lib.hid st
      have CJ := Lib.hid hcj
      have HH := Lib.hid hH
      have FL := Lib.hid hFlt
      have H0 := Lib.hid hh0
      have hH' : xHead (fun k => xRun (xLane0 seed k) k l q) = xMixes h0 (fun k => F k q) 4 := hH
      clear st hcj hH hFlt hh0 own own0 st0 e1 e2 e3 e4 hW hH' h hq
      generalize F 0 q = f0 at *
      generalize F 1 q = f1 at *
      generalize F 2 q = f2 at *
      generalize F 3 q = f3 at *
      have T0 := Lib.hid t0
      have T1 := Lib.hid t1
      have T2 := Lib.hid t2
      have T3 := Lib.hid t3
      clear t0 t1 t2 t3
      go_wp2_with fail
      go_quiet ((first | (go_at_call_of 21 (Value.int .u64 (f0 : Int)); exact Calls.quiet_of_same (T0.out _)) | (go_at_call_of 21 (Value.int .u64 (f1 : Int)); exact Calls.quiet_of_same (T1.out _)) | (go_at_call_of 21 (Value.int .u64 (f2 : Int)); exact Calls.quiet_of_same (T2.out _)) | (go_at_call_of 21 (Value.int .u64 (f3 : Int)); exact Calls.quiet_of_same (T3.out _))))
      go_wp2_with fail
      clear hv0 c0 c1 c2 c3 T0 T1 T2 T3 K1 K2
      go_loop [8, 9] (fun hv iv => ∃ j : Nat, iv = .int .i64 j ∧ j ≤ 4 ∧ ∃ x : Nat, hv = .int .u64 x ∧ Hid (x = xMixes h0 (fun k => F k q) j)) (fun _ iv => 4 - (intOf iv).toNat)
      case atStart => exact ⟨0, rfl, by omega, h0, rfl, rfl⟩
      case round =>
        obtain ⟨j, rfl, hj, x, rfl, hx⟩ := hrel
        by_cases hj4 : j < 4
        · have hxl : x < m64 := by rw [hx.out]; exact xMixes_lt _ _ _ H0.out
          have cj := CJ.out j hj4
          have z1 : (0 : Int) ≤ (j : Int) := by omega
          have z2 : (j : Int) < 4 := by omega
          obtain ⟨v, hv⟩ : ∃ v, v = F j q := ⟨_, rfl⟩
          rw [← hv] at cj
          have lz := fun w => rlane0 v w
          have ex := u64_xor_nat x (xLane 0 v) hxl (xLane_lt _ _)
          have em := wrap_mul (x ^^^ xLane 0 v) xP1
          have ea := wrap_add ((x ^^^ xLane 0 v) * xP1 % m64) xP4
          rw [Nat.mod_add_mod] at ea
          have e0 : ((x ^^^ xLane 0 v) * xP1 + xP4) % m64 = xMixes h0 (fun k => F k q) (j + 1) := by rw [hv, hx.out]; rfl
          have hp1 := fun w => rprime1 w
          have hp4 := fun w => rprime4 w
          generalize xLane 0 v = y at *
          generalize x ^^^ y = y2 at *
          generalize xP1 = P1 at *
          generalize xP4 = P4 at *
          rw [e0] at ea
          clear e0
          generalize y2 * P1 % m64 = y3 at *
          obtain ⟨z, hz⟩ : ∃ z, z = xMixes h0 (fun k => F k q) (j + 1) := ⟨_, rfl⟩
          rw [← hz] at ea
          have HZ := Lib.hid hz
          have LZ := Lib.hid lz
          have HP1 := Lib.hid hp1
          have HP4 := Lib.hid hp4
          clear hz lz hp1 hp4 hv hx
          go_wp2_with fail
          refine (LZ.out _).mono ?_
          rintro e w1 ⟨rfl, rfl⟩
          go_wp2_with fail
          refine (HP1.out _).mono ?_
          rintro e w1 ⟨rfl, rfl⟩
          go_wp2_with fail
          refine (HP4.out _).mono ?_
          rintro e w1 ⟨rfl, rfl⟩
          go_wp2_with fail
          go_round
          case rel => exact ⟨j + 1, by go_num, hj4, z, rfl, HZ.out⟩
          case measure => simp [intOf]; omega
        · obtain rfl : j = 4 := by omega
          go_wp2_with fail
          go_ret
          exact ⟨congrArg (fun z : Nat => Ending.returned (Value.int .u64 (z : Int))) (hx.out.trans HH.out.symm), still_drewN ST.out _⟩
end Go.Proofs.Ytbnbpfbgoicogaa
