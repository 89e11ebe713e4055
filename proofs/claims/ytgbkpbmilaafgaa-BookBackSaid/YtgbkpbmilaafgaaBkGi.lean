/- Contracts and facts, several texts in one. It proves no statement. -/
import Derived.Test.YtgbkpbmilaafgaaBkGh
import Derived.Deep.DeepCutAuto
import Derived.Sort.AtCall
import Derived.Test.YtgbkpbmilaafgaaBkGa
import Derived.Test.YtgbkpbmilaafgaaBkGc
import Derived.Outline
import Derived.Deep.DeepMust
import Derived.Test.YtgbkpbmilaafgaaBkGf

/- Contract: the document's own answer for XXH64. It proves no statement. -/



namespace Go.Proofs.Ytgbkpbmilaafgaa
open Go.RowKit
set_option linter.unusedVariables false
set_option linter.unusedSimpArgs false

theorem xor_lt64 (x y : Nat) (hx : x < m64) (hy : y < m64) : x ^^^ y < m64 := Nat.xor_lt_two_pow (n := 64) hx hy
theorem xEnd_lt (h : Nat) (l : List UInt8) (hh : h < m64) : xEnd h l < m64 := by
  unfold xEnd
  split
  · exact x1s_lt _ _ (x4_lt _ _)
  · exact x1s_lt _ _ hh
/-- The last spreading, number by number. -/
theorem fin_facts (h : Nat) (hh : h < m64) : ∃ q1 y1 z1 q2 y2 z2 q3 : Nat, (h : Int) / 8589934592 = (q1 : Int) ∧ bits .xor .u64 (h : Int) (q1 : Int) = (y1 : Int) ∧ IntKind.u64.wrap ((y1 : Int) * (xP2 : Int)) = (z1 : Int) ∧
    (z1 : Int) / 536870912 = (q2 : Int) ∧ bits .xor .u64 (z1 : Int) (q2 : Int) = (y2 : Int) ∧ IntKind.u64.wrap ((y2 : Int) * (xP3 : Int)) = (z2 : Int) ∧ (z2 : Int) / 4294967296 = (q3 : Int) ∧ bits .xor .u64 (z2 : Int) (q3 : Int) = (xFin h : Int) := by
  have hd : ∀ a b : Nat, a < m64 → a / b < m64 := fun a b ha => Nat.lt_of_le_of_lt (Nat.div_le_self _ _) ha
  have l1 : (h ^^^ h / 2 ^ 33) * xP2 % m64 < m64 := Nat.mod_lt _ (by decide)
  refine ⟨h / 2 ^ 33, h ^^^ h / 2 ^ 33, (h ^^^ h / 2 ^ 33) * xP2 % m64, _, _, _, _, ?_, u64_xor_nat _ _ hh (hd _ _ hh), wrap_mul _ _, ?_, u64_xor_nat _ ((h ^^^ h / 2 ^ 33) * xP2 % m64 / 2 ^ 29) l1 (hd _ _ l1), wrap_mul _ _, ?_, u64_xor_nat _ (((h ^^^ h / 2 ^ 33) * xP2 % m64 ^^^ (h ^^^ h / 2 ^ 33) * xP2 % m64 / 2 ^ 29) * xP3 % m64 / 2 ^ 32) (Nat.mod_lt _ (by decide)) (hd _ _ (Nat.mod_lt _ (by decide)))⟩
  · omega
  · generalize (h ^^^ h / 2 ^ 33) * xP2 % m64 = a
    omega
  · generalize ((h ^^^ h / 2 ^ 33) * xP2 % m64 ^^^ (h ^^^ h / 2 ^ 33) * xP2 % m64 / 2 ^ 29) * xP3 % m64 = a
    omega
/-- What is left of a text behind all whole thirty-twos. -/
theorem xEights_step (h : Nat) (l : List UInt8) (j : Nat) : xEights h l (j + 1) = x8 (xEights h l j) (xWord l (8 * j)) := rfl

set_option maxRecDepth 100000 in
set_option maxHeartbeats 1600000 in
theorem rsum_any (A : Option Addr) (n c : Nat) (l : List UInt8) (seed : Nat) (w : World) (B : Nat) (h : Reads w B A n l) (hB : B ≤ w.heap.size) (hn : n ≤ 70368744177664) (hnc : n ≤ c) (hs : seed < m64) :
    Calls Try.prog 64 #[.slice A n c, .int .u64 seed] w fun e w' => e = .returned (.int .u64 (xxSum l seed : Nat)) ∧ Still w w' := by
  have hl := h.1
  obtain ⟨x0, hx0⟩ : ∃ x0, x0 = if 32 ≤ n then xHead (fun k => xRun (xLane0 seed k) k l (n / 32)) else (seed + xP5) % m64 := ⟨_, rfl⟩
  have hx0l : x0 < m64 := by rw [hx0]; split; exact xHead_lt _; exact Nat.mod_lt _ (by decide)
  obtain ⟨rs, hrs⟩ : ∃ rs, rs = l.drop (32 * (n / 32)) := ⟨_, rfl⟩
  obtain ⟨x1', hx1⟩ : ∃ x, x = (x0 + n) % m64 := ⟨_, rfl⟩
  have hsum : xxSum l seed = xFin (xTail x1' rs) := by
    rw [hx1, hx0, hrs]; unfold xxSum xClose; rw [hl]
  rw [hsum]
  have ea := wrap_add x0 n
  rw [← hx1] at ea
  have p5 := rprime5 w
  have e5 := wrap_add seed xP5
  have RA := Lib.hid (fun (_ : 32 ≤ n) => rahead_any A n c l seed w B h hB hn hnc hs)
  generalize hhd : xHead (fun k => xRun (xLane0 seed k) k l (n / 32)) = hd at RA hx0
  generalize hz5 : (seed + xP5) % m64 = z5 at *
  have hx1l : x1' < m64 := by rw [hx1]; exact Nat.mod_lt _ (by decide)
  have HRS := Lib.hid hrs
  have HX0 := Lib.hid hx0
  have HX1 := Lib.hid hx1
  have P5 := Lib.hid p5
  clear hrs hx0 hx1 p5 hsum hl hhd hz5
  generalize xP5 = q5 at *
  obtain ⟨nn, hnn⟩ : ∃ nn : Int, nn = IntKind.u64.wrap (n : Int) := ⟨_, rfl⟩
  have hnn2 : nn = (n : Int) := by rw [hnn, IntKind.wrap_u64]; omega
  go_enter Try.func64, Try.ntmps64
  go_wp2_with fail
  refine P5.out.mono ?_
  rintro e w1 ⟨rfl, rfl⟩
  go_upto_if 12 with fail
  go_cut [5] (fun s5 wx => s5 = .int .u64 (x0 : Nat) ∧ Still w wx)
  case first =>
    by_cases h32 : 32 ≤ n
    · have e := HX0.out
      rw [if_pos h32] at e
      subst e
      have R := Lib.hid (RA.out h32)
      go_wp2_with fail
      refine R.out.mono ?_
      rintro e w1 ⟨rfl, st⟩
      go_wp2_with fail
      go_meet
      case rel => exact ⟨rfl, st⟩
    · have e := HX0.out
      rw [if_neg h32] at e
      subst e
      go_wp2_with fail
      go_meet
      case rel => exact ⟨rfl, Still.refl _⟩
  case rest =>
    obtain ⟨rfl, st⟩ := hcut
    have hr := h.still hB st
    have ST := Lib.hid st
    have HR := Lib.hid hr
    clear st hr h
    obtain ⟨b0, hb0⟩ : ∃ b0, b0 = 32 * (n / 32) := ⟨_, rfl⟩
    have hb0i : (n : Int) / 32 * 32 = (b0 : Int) := by omega
    have hrl : rs.length = n - b0 := by rw [HRS.out, List.length_drop, (HR.out).1, hb0]
    have hb0n : b0 ≤ n ∧ n < b0 + 32 := by omega
    have HB0 := Lib.hid hb0
    have HRL := Lib.hid hrl
    have hd1 : IntKind.i64.wrap ((n : Int) / 32 * 32) = (b0 : Int) := by rw [hb0i, IntKind.wrap_i64]; omega
    clear hb0 hrl hb0i hnn hnn2 e5 P5
    go_wp2_with fail
    go_loop [5, 6] (fun hv av => ∃ j : Nat, av = .int .i64 ((b0 + 8 * j : Nat) : Int) ∧ b0 + 8 * j ≤ n ∧ ∃ x : Nat, hv = .int .u64 x ∧ x < m64 ∧ Hid (x = xEights x1' rs j)) (fun _ av => n + 8 - (intOf av).toNat)
    case atStart => exact ⟨0, by go_num, by omega, x1', rfl, hx1l, rfl⟩
    case round =>
      obtain ⟨j, rfl, hj, x, rfl, hxl, hx⟩ := hrel
      obtain ⟨t, ht⟩ : ∃ t, t = b0 + 8 * j := ⟨_, rfl⟩
      rw [← ht] at hj ⊢
      have d5 : IntKind.i64.wrap ((t : Int) + 8) = (t : Int) + 8 := by rw [IntKind.wrap_i64]; omega
      by_cases h8 : t + 8 ≤ n
      · obtain ⟨b, o, hA, hb, hc⟩ := HR.out.at_ (by omega)
        have rw1 := (HR.out.dropk (k := t) (by omega)).takek (k := 8) (by omega)
        have hwd : leNum ((l.drop t).take 8) = xWord rs (8 * j) := by
          rw [HRS.out, xWord_drop, ← HB0.out, ← ht]; rfl
        subst hA
        clear hc
        have d2 : ((t : Int) + 8 ≤ (n : Int)) := by omega
        have d3 : (0 : Int) ≤ (t : Int) := by omega
        have d4 : ((t : Int) + 8 ≤ (c : Int)) := by omega
        have d9 : ((t : Int) + 8).toNat = t + 8 := by omega
        have d10 : t + 8 - t = 8 := by omega
        have d11 : ¬ c = t := by omega
        have d12 : (0 : Int) ≤ (t : Int) + 8 := by omega
        have d13 : t ≤ t + 8 := by omega
        have rw2 : Reads wc B (some ⟨b, o + t, none⟩) 8 ((l.drop t).take 8) := by
          have r := rw1
          simp only [Option.map_some, Addr.add_lit] at r
          exact r
        have hnum := rnum_any _ 8 (c - t) _ wc B rw2 (by omega) (by omega)
        rw [hwd] at hnum
        obtain ⟨v, hv⟩ : ∃ v, v = xWord rs (8 * j) := ⟨_, rfl⟩
        rw [← hv] at hnum
        have hlz := rlane0 v wc
        have hyl := xLane_lt 0 v
        have ex := u64_xor_nat x (xLane 0 v) hxl hyl
        have hxy := xor_lt64 x (xLane 0 v) hxl hyl
        have htn := rturn_any (x ^^^ xLane 0 v) 27 wc hxy (by omega)
        have em := wrap_mul (rotl 64 (x ^^^ xLane 0 v) 27) xP1
        have ea2 := wrap_add (rotl 64 (x ^^^ xLane 0 v) 27 * xP1 % m64) xP4
        rw [Nat.mod_add_mod] at ea2
        have e0 : (rotl 64 (x ^^^ xLane 0 v) 27 * xP1 + xP4) % m64 = xEights x1' rs (j + 1) := by rw [hv, hx.out]; rfl
        have hp1 := rprime1 wc
        have hp4 := rprime4 wc
        generalize xLane 0 v = y at *
        generalize x ^^^ y = y2 at *
        generalize rotl 64 y2 27 = y3 at *
        generalize xP1 = P1 at *
        generalize xP4 = P4 at *
        rw [e0] at ea2
        clear e0
        generalize y3 * P1 % m64 = y4 at *
        obtain ⟨z, hz⟩ : ∃ z, z = xEights x1' rs (j + 1) := ⟨_, rfl⟩
        have hzl : z < m64 := by rw [hz]; exact xEights_lt _ _ _ hx1l
        rw [← hz] at ea2
        have HZ := Lib.hid hz
        have HV := Lib.hid hv
        have HNUM := Lib.hid hnum
        have HLZ := Lib.hid hlz
        have HTN := Lib.hid htn
        have HP1 := Lib.hid hp1
        have HP4 := Lib.hid hp4
        have HT := Lib.hid ht
        clear hz hv hnum hlz htn hp1 hp4 ht rw1 rw2 hwd hx h8 hj
        go_wp2_with fail
        refine HNUM.out.mono ?_
        rintro e w1 ⟨rfl, rfl⟩
        go_wp2_with fail
        refine HLZ.out.mono ?_
        rintro e w1 ⟨rfl, rfl⟩
        go_wp2_with fail
        refine HTN.out.mono ?_
        rintro e w1 ⟨rfl, rfl⟩
        go_wp2_with fail
        refine HP1.out.mono ?_
        rintro e w1 ⟨rfl, rfl⟩
        go_wp2_with fail
        refine HP4.out.mono ?_
        rintro e w1 ⟨rfl, rfl⟩
        go_wp2_with fail
        go_round
        case rel =>
          have := HT.out
          exact ⟨j + 1, by go_num, by omega, z, rfl, hzl, HZ.out⟩
        case measure =>
          have := HT.out
          simp [intOf]; omega
      · have hjj : j = rs.length / 8 := by have := HRL.out; omega
        have hEi := hx.out
        rw [hjj] at hEi
        have hdr : rs.drop (8 * (rs.length / 8)) = l.drop t := by rw [← hjj, HRS.out, List.drop_drop, ← HB0.out, ht]
        have hE : xTail x1' rs = xEnd x (l.drop t) := by rw [← hdr, hEi]; rfl
        have hlt : (l.drop t).length = n - t := by rw [List.length_drop, HR.out.1]
        have htn : t ≤ n := hj
        have d2 : (n : Int) < (t : Int) + 8 := by omega
        have HE := Lib.hid hE
        have HLT := Lib.hid hlt
        have HT := Lib.hid ht
        clear hE hdr hjj hEi hlt ht hx hj HX1 ea hx0l HB0 HRL hx1l hb0n hd1
        have d6 : IntKind.i64.wrap ((t : Int) + 4) = (t : Int) + 4 := by rw [IntKind.wrap_i64]; omega
        go_upto_if 50 with fail
        go_cut [5, 6] (fun s5 s6 wx => ∃ y u : Nat, s5 = .int .u64 y ∧ s6 = .int .i64 u ∧ u ≤ n ∧ y < m64 ∧ Hid (xEnd x (l.drop t) = (l.drop u).foldl x1 y) ∧ wx = wc)
        case first =>
          by_cases h4 : t + 4 ≤ n
          · obtain ⟨b, o, hA, hb, hc⟩ := HR.out.at_ (by omega)
            have rw1 := (HR.out.dropk (k := t) (by omega)).takek (k := 4) (by omega)
            subst hA
            clear hc
            have d2 : ((t : Int) + 4 ≤ (n : Int)) := by omega
            have d3 : (0 : Int) ≤ (t : Int) := by omega
            have d4 : ((t : Int) + 4 ≤ (c : Int)) := by omega
            have d9 : ((t : Int) + 4).toNat = t + 4 := by omega
            have d10 : t + 4 - t = 4 := by omega
            have d11 : ¬ c = t := by omega
            have d12 : (0 : Int) ≤ (t : Int) + 4 := by omega
            have d13 : t ≤ t + 4 := by omega
            have rw2 : Reads wc B (some ⟨b, o + t, none⟩) 4 ((l.drop t).take 4) := by
              have r := rw1
              simp only [Option.map_some, Addr.add_lit] at r
              exact r
            have hnum := rnum_any _ 4 (c - t) _ wc B rw2 (by omega) (by omega)
            obtain ⟨v, hv⟩ : ∃ v, v = leNum ((l.drop t).take 4) := ⟨_, rfl⟩
            rw [← hv] at hnum
            have hvm : v * xP1 % m64 < m64 := Nat.mod_lt _ (by decide)
            have em0 := wrap_mul v xP1
            have ex := u64_xor_nat x (v * xP1 % m64) hxl hvm
            have hxy := xor_lt64 x (v * xP1 % m64) hxl hvm
            have htn := rturn_any (x ^^^ (v * xP1 % m64)) 23 wc hxy (by omega)
            have em := wrap_mul (rotl 64 (x ^^^ (v * xP1 % m64)) 23) xP2
            have ea2 := wrap_add (rotl 64 (x ^^^ (v * xP1 % m64)) 23 * xP2 % m64) xP3
            rw [Nat.mod_add_mod] at ea2
            have e0 : (rotl 64 (x ^^^ (v * xP1 % m64)) 23 * xP2 + xP3) % m64 = x4 x v := rfl
            have hp1 := rprime1 wc
            have hp2 := rprime2 wc
            have hp3 := rprime3 wc
            generalize v * xP1 % m64 = y at *
            generalize x ^^^ y = y2 at *
            generalize rotl 64 y2 23 = y3 at *
            generalize xP1 = P1 at *
            generalize xP2 = P2 at *
            generalize xP3 = P3 at *
            rw [e0] at ea2
            clear e0
            generalize y3 * P2 % m64 = y4 at *
            obtain ⟨z, hz⟩ : ∃ z, z = x4 x v := ⟨_, rfl⟩
            have hzl : z < m64 := by rw [hz]; exact x4_lt _ _
            rw [← hz] at ea2
            have hend : xEnd x (l.drop t) = (l.drop (t + 4)).foldl x1 z := by
              unfold xEnd
              rw [if_pos (by have := HLT.out; omega), List.drop_drop, hz, hv]
            have HZ := Lib.hid hend
            have HNUM := Lib.hid hnum
            have HTN := Lib.hid htn
            have HP1 := Lib.hid hp1
            have HP2 := Lib.hid hp2
            have HP3 := Lib.hid hp3
            clear hz hv hnum htn hp1 hp2 hp3 rw1 rw2 h4 hend
            go_wp2_with fail
            refine HNUM.out.mono ?_
            rintro e w1 ⟨rfl, rfl⟩
            go_wp2_with fail
            refine HP1.out.mono ?_
            rintro e w1 ⟨rfl, rfl⟩
            go_wp2_with fail
            refine HTN.out.mono ?_
            rintro e w1 ⟨rfl, rfl⟩
            go_wp2_with fail
            refine HP2.out.mono ?_
            rintro e w1 ⟨rfl, rfl⟩
            go_wp2_with fail
            refine HP3.out.mono ?_
            rintro e w1 ⟨rfl, rfl⟩
            go_wp2_with fail
            go_meet
            case rel => exact ⟨z, t + 4, rfl, by go_num, by omega, hzl, HZ.out, rfl⟩
          · have d3 : (n : Int) < (t : Int) + 4 := by omega
            have hend : xEnd x (l.drop t) = (l.drop t).foldl x1 x := by
              unfold xEnd
              rw [if_neg (by have := HLT.out; omega)]
            have HZ := Lib.hid hend
            clear hend
            go_wp2_with fail
            go_meet
            case rel => exact ⟨x, t, rfl, rfl, htn, hxl, HZ.out, rfl⟩
        case rest =>
          obtain ⟨y, u, rfl, rfl, hu, hy, hend, rfl⟩ := hcut
          have hBw : B ≤ wc.heap.size := Nat.le_trans hB ST.out.size
          clear d5 d2 d6 htn hxl
          go_wp2_with fail
          go_loopw [5, 6] (fun hv av wr => ∃ k : Nat, av = .int .i64 k ∧ k ≤ n ∧ ∃ x' : Nat, hv = .int .u64 x' ∧ x' < m64 ∧ Hid (xEnd x (l.drop t) = (l.drop k).foldl x1 x') ∧ Still wc wr) (fun _ av _ => n - (intOf av).toNat)
          case atStart => exact ⟨u, rfl, hu, y, rfl, hy, hend, Still.refl _⟩
          case round =>
            obtain ⟨k, rfl, hk, x', rfl, hx', hf, stw⟩ := hrel
            by_cases hkn : k < n
            · obtain ⟨b, o, hA, hb, hc⟩ := (HR.out.still hBw stw).at_ (by omega)
              have ck := hc k hkn
              have hlk : k < l.length := by rw [HR.out.1]; exact hkn
              have hdk : l.drop k = l.getD k 0 :: l.drop (k + 1) := by
                rw [List.drop_eq_getElem_cons hlk]; simp [List.getD, hlk]
              have hf2 := hf.out
              rw [hdk, List.foldl_cons] at hf2
              subst hA
              clear hc hdk hf
              obtain ⟨d, hdb⟩ : ∃ d, d = (l.getD k 0).toNat := ⟨_, rfl⟩
              have hd256 : d < 256 := by rw [hdb]; exact (l.getD k 0).toNat_lt
              rw [← hdb] at ck
              have hdm : d * xP5 % m64 < m64 := Nat.mod_lt _ (by decide)
              have em0 := wrap_mul d xP5
              have ex := u64_xor_nat x' (d * xP5 % m64) hx' hdm
              have hxy := xor_lt64 x' (d * xP5 % m64) hx' hdm
              have htn := fun w => (rturn_any (x' ^^^ (d * xP5 % m64)) 11 w hxy (by omega)).mono fun e w' h => (⟨h.1, h.2.symm⟩ : e = _ ∧ w' = w)
              have em := wrap_mul (rotl 64 (x' ^^^ (d * xP5 % m64)) 11) xP1
              have e0 : rotl 64 (x' ^^^ (d * xP5 % m64)) 11 * xP1 % m64 = x1 x' (l.getD k 0) := by rw [hdb]; rfl
              have hp5 := fun w => (rprime5 w).mono fun e w' h => (⟨h.1, h.2.symm⟩ : e = _ ∧ w' = w)
              have hp1 := fun w => (rprime1 w).mono fun e w' h => (⟨h.1, h.2.symm⟩ : e = _ ∧ w' = w)
              generalize d * xP5 % m64 = y1 at *
              generalize x' ^^^ y1 = y2 at *
              generalize rotl 64 y2 11 = y3 at *
              generalize xP1 = P1 at *
              generalize xP5 = P5 at *
              rw [e0] at em
              clear e0
              obtain ⟨z, hz⟩ : ∃ z, z = x1 x' (l.getD k 0) := ⟨_, rfl⟩
              have hzl : z < m64 := by rw [hz]; exact x1_lt _ _
              rw [← hz] at em hf2
              have z1 : (0 : Int) ≤ (k : Int) := by omega
              have z2 : (k : Int) < (n : Int) := by omega
              have HF := Lib.hid hf2
              have HTN := Lib.hid htn
              have HP1 := Lib.hid hp1
              have HP5 := Lib.hid hp5
              clear hdb hz hf2 htn hp1 hp5 hend
              go_wp2_with fail
              go_quiet ((first | (go_at_call_has 77 (Value.int .i64 5); exact Calls.quiet_of_same (HP5.out _)) | (go_at_call_has 77 (Value.int .i64 1); exact Calls.quiet_of_same (HP1.out _)) | (go_at_call 79; exact Calls.quiet_of_same (HTN.out _))))
              go_wp2_with fail
              go_roundw
              case rel => exact ⟨k + 1, by go_num, hkn, z, rfl, hzl, HF.out, still_drewN stw _⟩
              case measure => simp [intOf]; omega
            · obtain rfl : k = n := by omega
              have hfin : xTail x1' rs = x' := by
                rw [HE.out, hf.out, List.drop_of_length_le (Nat.le_of_eq HR.out.1)]; rfl
              have ST2 := Lib.hid (ST.out.trans stw)
              obtain ⟨q1, y1, z1, q2, y2, z2, q3, f1, f2, f3, f4, f5, f6, f7, f8⟩ := fin_facts x' hx'
              rw [← hfin] at f8
              obtain ⟨R, hR⟩ : ∃ R, R = xFin (xTail x1' rs) := ⟨_, rfl⟩
              rw [← hR] at f8
              have HRR := Lib.hid hR
              clear hfin hR hf hend stw
              have p2 := fun w => rprime2 w
              have p3 := fun w => rprime3 w
              generalize xP2 = P2 at *
              generalize xP3 = P3 at *
              have HP2 := Lib.hid p2
              have HP3 := Lib.hid p3
              clear p2 p3
              go_wp2_with fail
              refine (HP2.out _).mono ?_
              rintro e w1 ⟨rfl, rfl⟩
              go_wp2_with fail
              refine (HP3.out _).mono ?_
              rintro e w1 ⟨rfl, rfl⟩
              go_wp2_with fail
              go_ret
              exact ⟨congrArg (fun z : Nat => Ending.returned (Value.int .u64 (z : Int))) HRR.out, ST2.out⟩
end Go.Proofs.Ytgbkpbmilaafgaa

/- Contracts: numbers of 64 bits turned. It proves no statement. -/




namespace Go.Proofs.Ytgbkpbmilaafgaa
open Go.RowKit
set_option linter.unusedVariables false
set_option linter.unusedSimpArgs false

theorem and63 (n : Int) : bits BinOp.and IntKind.u64 (IntKind.u64.wrap n) 63 = (((n % 64).toNat : Nat) : Int) := by
  have h0 : 0 ≤ IntKind.u64.wrap n := by rw [IntKind.wrap_u64]; omega
  have h1 : IntKind.u64.wrap n < 18446744073709551616 := by rw [IntKind.wrap_u64]; omega
  rw [u64_and _ _ h0 h1 (by omega) (by omega)]
  have e : ((63 : Int).toNat) = 63 := rfl
  rw [e, nat_mask6, IntKind.wrap_u64]
  omega
theorem rot64 (x : Nat) (n : Int) (w : World) (hx : x < 18446744073709551616) :
    Calls Try.prog 98 #[.int .u64 x, .int .i64 n] w fun e w' => e = .returned (.int .u64 (rotl 64 x (n % 64).toNat : Nat)) ∧ w = w' := by
  have ha := and63 n
  have hs : (n % 64).toNat < 64 := by omega
  generalize (n % 64).toNat = s at ha hs ⊢
  have hr := rot_cast64 x s hx hs
  have HR := Lib.hid hr
  clear hr
  generalize rotl 64 x s = z at HR ⊢
  go_enter Try.func98, Try.ntmps98
  go_wp2
  go_ret
  exact ⟨congrArg (fun z => Ending.returned (Value.int IntKind.u64 z)) HR.out, rfl⟩
theorem turn64_any (x : Nat) (n : Int) (w : World) (hx : x < 18446744073709551616) :
    Calls Try.prog 96 #[.int .u64 x, .int .i64 n] w fun e w' => e = .returned (.int .u64 (rotl 64 x (n % 64).toNat : Nat)) ∧ w = w' := by
  have h := rot64 x n w hx
  generalize rotl 64 x (n % 64).toNat = z at h ⊢
  go_enter Try.func96, Try.ntmps96
  go_wp2_with fail
  refine h.mono ?_
  rintro e w1 ⟨rfl, rfl⟩
  clear h
  go_wp2_with fail
  go_ret
  exact ⟨rfl, rfl⟩
end Go.Proofs.Ytgbkpbmilaafgaa

/- Contracts: the landed xxh's lanes, words and what is left. It proves no statement. -/



namespace Go.Proofs.Ytgbkpbmilaafgaa
open Go.RowKit
set_option linter.unusedVariables false
set_option linter.unusedSimpArgs false

theorem number_any (A : Option Addr) (n c : Nat) (l : List UInt8) (w : World) (B : Nat) (h : Reads w B A n l) (h1 : 1 ≤ n) (h2 : n ≤ 8) :
    Calls Try.prog 95 #[.slice A n c] w fun e w' => e = .returned (.int .u64 (leNum l : Nat)) ∧ w = w' := by
  have k := get_yes A n c l w B h h1 h2
  generalize leNum l = z at k ⊢
  clear h h1 h2
  have K := Lib.hid k
  clear k
  go_enter Try.func95, Try.ntmps95
  go_wp2_with fail
  refine K.out.mono ?_
  rintro e w1 ⟨rfl, rfl⟩
  go_wp2_with fail
  go_ret
  exact ⟨rfl, rfl⟩

theorem turnk (x : Nat) (n : Nat) (w : World) (hx : x < m64) (hn : n < 64) :
    Calls Try.prog 96 #[.int .u64 x, .int .i64 n] w fun e w' => e = .returned (.int .u64 (rotl 64 x n : Nat)) ∧ w = w' := by
  have h := turn64_any x n w hx
  rwa [show ((n : Int) % 64).toNat = n by omega] at h

theorem lane_any (a x : Nat) (w : World) :
    Calls Try.prog 94 #[.int .u64 a, .int .u64 x] w fun e w' => e = .returned (.int .u64 (xLane a x : Nat)) ∧ w = w' := by
  have e1 : IntKind.u64.wrap ((x : Int) * 14029467366897019727) = ((x * xP2 % m64 : Nat) : Int) := wrap_mul x xP2
  have e2 := wrap_add a (x * xP2 % m64)
  rw [Nat.add_mod_mod] at e2
  have hs : (a + x * xP2) % m64 < m64 := Nat.mod_lt _ (by decide)
  have t := turnk _ 31 w hs (by omega)
  have e3 : IntKind.u64.wrap (((rotl 64 ((a + x * xP2) % m64) 31 : Nat) : Int) * 11400714785074694791) = ((rotl 64 ((a + x * xP2) % m64) 31 * xP1 % m64 : Nat) : Int) := wrap_mul (rotl 64 ((a + x * xP2) % m64) 31) xP1
  have ez : rotl 64 ((a + x * xP2) % m64) 31 * xP1 % m64 = xLane a x := rfl
  rw [ez] at e3
  generalize xLane a x = z at e3 ⊢
  clear ez
  generalize rotl 64 ((a + x * xP2) % m64) 31 = r at e3 t
  generalize (a + x * xP2) % m64 = s at e2 t hs
  generalize x * xP2 % m64 = y at e1 e2
  have T := Lib.hid t
  clear t hs
  go_enter Try.func94, Try.ntmps94
  go_wp2_with fail
  refine T.out.mono ?_
  rintro e w1 ⟨rfl, rfl⟩
  go_wp2_with fail
  go_ret
  exact ⟨rfl, rfl⟩
theorem lane0 (x : Nat) (w : World) :
    Calls Try.prog 94 #[.int .u64 0, .int .u64 x] w fun e w' => e = .returned (.int .u64 (xLane 0 x : Nat)) ∧ w = w' := lane_any 0 x w

theorem finished_any (h : Nat) (w : World) (hh : h < m64) :
    Calls Try.prog 91 #[.int .u64 h] w fun e w' => e = .returned (.int .u64 (xFin h : Nat)) ∧ w = w' := by
  obtain ⟨q1, y1, z1, q2, y2, z2, q3, f1, f2, f3, f4, f5, f6, f7, f8⟩ := fin_facts h hh
  have f3' : IntKind.u64.wrap ((y1 : Int) * 14029467366897019727) = (z1 : Int) := f3
  have f6' : IntKind.u64.wrap ((y2 : Int) * 1609587929392839161) = (z2 : Int) := f6
  generalize xFin h = R at *
  clear f3 f6
  go_enter Try.func91, Try.ntmps91
  go_wp2_with fail
  go_ret
  exact ⟨rfl, rfl⟩
end Go.Proofs.Ytgbkpbmilaafgaa

/- Contract: the landed xxh's withRest. It proves no statement. -/


namespace Go.Proofs.Ytgbkpbmilaafgaa
open Go.RowKit
set_option linter.unusedVariables false
set_option linter.unusedSimpArgs false

/-- A slice that reads, wherever it lies. -/
def Rest (w : World) (B n : Nat) (l : List UInt8) (v : Value) : Prop := ∃ A c, v = .slice A n c ∧ Reads w B A n l ∧ n ≤ c ∧ c ≤ 9223372036854775807
theorem rest_end {w : World} {B k : Nat} {A : Option Addr} {l : List UInt8} (hl : l.length = k) : Rest w B 0 (l.drop k) (.slice A 0 0) := by
  refine ⟨A, 0, rfl, ?_, Nat.le_refl _, by omega⟩
  rw [List.drop_of_length_le (by omega)]
  exact Reads.nil0
theorem rest_drop {w : World} {B n c k b o : Nat} {l : List UInt8} (h : Reads w B (some ⟨b, o, none⟩) n l) (hk : k ≤ n) (hc : n ≤ c) (hm : c ≤ 9223372036854775807) :
    Rest w B (n - k) (l.drop k) (.slice (some ⟨b, o + k, none⟩) (n - k) (c - k)) := by
  have r := h.dropk hk
  simp only [Option.map_some, Addr.add_lit] at r
  exact ⟨_, _, rfl, r, by omega, by omega⟩

set_option maxRecDepth 100000 in
set_option maxHeartbeats 1600000 in
theorem withRest_any (A : Option Addr) (n c : Nat) (l : List UInt8) (x0 : Nat) (w : World) (B : Nat) (h : Reads w B A n l) (hn : n ≤ 70368744177664) (hnc : n ≤ c) (hc : c ≤ 9223372036854775807) (hx0 : x0 < m64) :
    Calls Try.prog 92 #[.int .u64 x0, .slice A n c] w fun e w' => e = .returned (.int .u64 (xTail x0 l : Nat)) ∧ w = w' := by
  have hl := h.1
  have HL := Lib.hid hl
  clear hl
  go_enter Try.func92, Try.ntmps92
  go_wp2_with fail
  go_loopg [0, 1] n (fun g xv bv wr => wr = w ∧ ∃ j : Nat, g + 8 * j = n ∧ Rest w B g (l.drop (8 * j)) bv ∧ ∃ x : Nat, xv = .int .u64 x ∧ x < m64 ∧ Hid (x = xEights x0 l j))
  case atStart => exact ⟨rfl, 0, by omega, ⟨A, c, rfl, h, hnc, hc⟩, x0, rfl, hx0, rfl⟩
  case round =>
    obtain ⟨rfl, j, hgj, ⟨A1, c1, rfl, hr, hgc, hc1⟩, x, rfl, hxl, hx⟩ := hrel
    by_cases h8 : 8 ≤ gk
    · obtain ⟨b, o, rfl, hb, hcc⟩ := hr.at_ (by omega)
      clear hcc
      have hw8 : leNum ((l.drop (8 * j)).take 8) = xWord l (8 * j) := rfl
      have hnum := number_any _ 8 c1 _ wr B (hr.takek (k := 8) (by omega)) (by omega) (by omega)
      rw [hw8] at hnum
      obtain ⟨v, hv⟩ : ∃ v, v = xWord l (8 * j) := ⟨_, rfl⟩
      rw [← hv] at hnum
      have hlz := lane0 v wr
      have ex := u64_xor_nat x (xLane 0 v) hxl (xLane_lt _ _)
      have hxy := xor_lt64 x (xLane 0 v) hxl (xLane_lt _ _)
      have htn := turnk (x ^^^ xLane 0 v) 27 wr hxy (by omega)
      have em : IntKind.u64.wrap ((rotl 64 (x ^^^ xLane 0 v) 27 : Nat) * 11400714785074694791) = ((rotl 64 (x ^^^ xLane 0 v) 27 * xP1 % m64 : Nat) : Int) := wrap_mul (rotl 64 (x ^^^ xLane 0 v) 27) xP1
      have ea2 : IntKind.u64.wrap ((rotl 64 (x ^^^ xLane 0 v) 27 * xP1 % m64 : Nat) + 9650029242287828579) = (((rotl 64 (x ^^^ xLane 0 v) 27 * xP1 % m64 + xP4) % m64 : Nat) : Int) := wrap_add (rotl 64 (x ^^^ xLane 0 v) 27 * xP1 % m64) xP4
      rw [Nat.mod_add_mod] at ea2
      have e0 : (rotl 64 (x ^^^ xLane 0 v) 27 * xP1 + xP4) % m64 = xEights x0 l (j + 1) := by rw [hv, hx.out]; rfl
      rw [e0] at ea2
      clear e0
      generalize xLane 0 v = y at *
      generalize x ^^^ y = y2 at *
      generalize rotl 64 y2 27 = y3 at *
      generalize y3 * xP1 % m64 = y4 at *
      obtain ⟨z, hz⟩ : ∃ z, z = xEights x0 l (j + 1) := ⟨_, rfl⟩
      have hzl : z < m64 := by rw [hz]; exact xEights_lt _ _ _ hx0
      rw [← hz] at ea2
      have HZ := Lib.hid hz
      have HV := Lib.hid hv
      have HNUM := Lib.hid hnum
      have HLZ := Lib.hid hlz
      have HTN := Lib.hid htn
      have HG := Lib.hid hgj
      have z8 : (8 : Int) ≤ (gk : Int) := by omega
      clear hz hv hnum hlz htn hx hw8 hgj
      go_wp2_with fail
      refine HNUM.out.mono ?_
      rintro e w1 ⟨rfl, rfl⟩
      go_wp2_with fail
      refine HLZ.out.mono ?_
      rintro e w1 ⟨rfl, rfl⟩
      go_wp2_with fail
      refine HTN.out.mono ?_
      rintro e w1 ⟨rfl, rfl⟩
      by_cases hc8 : c1 = 8
      · subst hc8
        obtain rfl : gk = 8 := by omega
        go_wp2_with fail
        go_roundg 0
        case measure => omega
        case rel => exact ⟨rfl, j + 1, by have := HG.out; omega, by have := rest_end (w := wr) (B := B) (A := some ⟨b, o, none⟩) hr.1; rw [List.drop_drop] at this; exact this, z, rfl, hzl, HZ.out⟩
      · go_wp2_with fail
        go_roundg (gk - 8)
        case measure => omega
        case rel =>
          refine ⟨rfl, j + 1, by have := HG.out; omega, ?_, z, rfl, hzl, HZ.out⟩
          have := rest_drop hr h8 hgc hc1
          rw [List.drop_drop] at this
          exact this
    · have hll := HL.out
      have hjj : j = l.length / 8 := by omega
      have hEi := hx.out
      have hdr : l.drop (8 * (l.length / 8)) = l.drop (8 * j) := by rw [hjj]
      have hE : xTail x0 l = xEnd x (l.drop (8 * j)) := by rw [← hdr, hEi, hjj]; rfl
      obtain ⟨r, hrd⟩ : ∃ r, r = l.drop (8 * j) := ⟨_, rfl⟩
      rw [← hrd] at hr hE
      have HE := Lib.hid hE
      clear hE hEi hjj hdr hx hrd hll HL h hgj
      have hrl := Lib.hid hr.1
      have z8 : (gk : Int) < 8 := by omega
      go_upto_if 23 with fail
      go_cut [0, 1] (fun s0 s1 wx => ∃ y u : Nat, ∃ r', s0 = .int .u64 y ∧ u < 8 ∧ Rest wr B u r' s1 ∧ y < m64 ∧ Hid (xEnd x r = r'.foldl x1 y) ∧ wx = wr)
      case first =>
        by_cases h4 : 4 ≤ gk
        · obtain ⟨b, o, rfl, hb, hcc⟩ := hr.at_ (by omega)
          clear hcc
          have hnum := number_any _ 4 c1 _ wr B (hr.takek (k := 4) (by omega)) (by omega) (by omega)
          obtain ⟨v, hv⟩ : ∃ v, v = leNum (r.take 4) := ⟨_, rfl⟩
          rw [← hv] at hnum
          have hvm : v * xP1 % m64 < m64 := Nat.mod_lt _ (by decide)
          have em0 : IntKind.u64.wrap ((v : Int) * 11400714785074694791) = ((v * xP1 % m64 : Nat) : Int) := wrap_mul v xP1
          have ex := u64_xor_nat x (v * xP1 % m64) hxl hvm
          have hxy := xor_lt64 x (v * xP1 % m64) hxl hvm
          have htn := turnk (x ^^^ (v * xP1 % m64)) 23 wr hxy (by omega)
          have em : IntKind.u64.wrap (((rotl 64 (x ^^^ (v * xP1 % m64)) 23 : Nat) : Int) * 14029467366897019727) = ((rotl 64 (x ^^^ (v * xP1 % m64)) 23 * xP2 % m64 : Nat) : Int) := wrap_mul (rotl 64 (x ^^^ (v * xP1 % m64)) 23) xP2
          have ea2 : IntKind.u64.wrap (((rotl 64 (x ^^^ (v * xP1 % m64)) 23 * xP2 % m64 : Nat) : Int) + 1609587929392839161) = (((rotl 64 (x ^^^ (v * xP1 % m64)) 23 * xP2 % m64 + xP3) % m64 : Nat) : Int) := wrap_add (rotl 64 (x ^^^ (v * xP1 % m64)) 23 * xP2 % m64) xP3
          rw [Nat.mod_add_mod] at ea2
          have e0 : (rotl 64 (x ^^^ (v * xP1 % m64)) 23 * xP2 + xP3) % m64 = x4 x v := rfl
          rw [e0] at ea2
          clear e0
          generalize v * xP1 % m64 = y at *
          generalize x ^^^ y = y2 at *
          generalize rotl 64 y2 23 = y3 at *
          generalize y3 * xP2 % m64 = y4 at *
          obtain ⟨z, hz⟩ : ∃ z, z = x4 x v := ⟨_, rfl⟩
          have hzl : z < m64 := by rw [hz]; exact x4_lt _ _
          rw [← hz] at ea2
          have hend : xEnd x r = (r.drop 4).foldl x1 z := by
            unfold xEnd
            rw [if_pos (by have := hrl.out; omega), hz, hv]
          have HZ := Lib.hid hend
          have HNUM := Lib.hid hnum
          have HTN := Lib.hid htn
          have z4 : (4 : Int) ≤ (gk : Int) := by omega
          clear hz hv hnum htn hend h8
          go_wp2_with fail
          refine HNUM.out.mono ?_
          rintro e w1 ⟨rfl, rfl⟩
          go_wp2_with fail
          refine HTN.out.mono ?_
          rintro e w1 ⟨rfl, rfl⟩
          by_cases hc4 : c1 = 4
          · subst hc4
            obtain rfl : gk = 4 := by omega
            go_wp2_with fail
            go_meet
            case rel => exact ⟨z, 0, _, rfl, by omega, rest_end hr.1, hzl, HZ.out, rfl⟩
          · go_wp2_with fail
            go_meet
            case rel => exact ⟨z, gk - 4, _, rfl, by omega, rest_drop hr h4 hgc hc1, hzl, HZ.out, rfl⟩
        · have hend : xEnd x r = r.foldl x1 x := by
            unfold xEnd
            rw [if_neg (by have := hrl.out; omega)]
          have HZ := Lib.hid hend
          have z4 : (gk : Int) < 4 := by omega
          clear hend
          go_wp2_with fail
          go_meet
          case rel => exact ⟨x, gk, r, rfl, by omega, ⟨A1, c1, rfl, hr, hgc, hc1⟩, hxl, HZ.out, rfl⟩
      case rest =>
        obtain ⟨y, u, r', rfl, hu, ⟨A2, c2, rfl, hr2, hgc2, hcm2⟩, hy, hf, rfl⟩ := hcut
        have hl2 := Lib.hid hr2.1
        clear hr hgc hc1 hrl hxl z8 h8
        go_wp2_with fail
        go_loop [0, 37] (fun xv iv => ∃ k : Nat, iv = .int .i64 k ∧ k ≤ u ∧ ∃ x' : Nat, xv = .int .u64 x' ∧ x' < m64 ∧ Hid (xEnd x r = (r'.drop k).foldl x1 x')) (fun _ iv => u - (intOf iv).toNat)
        case atStart => exact ⟨0, rfl, by omega, y, rfl, hy, hf⟩
        case round =>
          obtain ⟨k, rfl, hk, x', rfl, hx', hf⟩ := hrel
          by_cases hku : k < u
          · obtain ⟨b, o, hA, hb, hcc⟩ := hr2.at_ (by omega)
            have ck := hcc k hku
            have hlk : k < r'.length := by rw [hl2.out]; exact hku
            have hdk : r'.drop k = r'.getD k 0 :: r'.drop (k + 1) := by
              rw [List.drop_eq_getElem_cons hlk]; simp [List.getD, hlk]
            have hf2 := hf.out
            rw [hdk, List.foldl_cons] at hf2
            subst hA
            clear hcc hdk hf
            obtain ⟨d, hdb⟩ : ∃ d, d = (r'.getD k 0).toNat := ⟨_, rfl⟩
            have hd256 : d < 256 := by rw [hdb]; exact (r'.getD k 0).toNat_lt
            rw [← hdb] at ck
            have hdm : d * xP5 % m64 < m64 := Nat.mod_lt _ (by decide)
            have em0 : IntKind.u64.wrap ((d : Int) * 2870177450012600261) = ((d * xP5 % m64 : Nat) : Int) := wrap_mul d xP5
            have ex := u64_xor_nat x' (d * xP5 % m64) hx' hdm
            have hxy := xor_lt64 x' (d * xP5 % m64) hx' hdm
            have htn := turnk (x' ^^^ (d * xP5 % m64)) 11 wc hxy (by omega)
            have em : IntKind.u64.wrap (((rotl 64 (x' ^^^ (d * xP5 % m64)) 11 : Nat) : Int) * 11400714785074694791) = ((rotl 64 (x' ^^^ (d * xP5 % m64)) 11 * xP1 % m64 : Nat) : Int) := wrap_mul (rotl 64 (x' ^^^ (d * xP5 % m64)) 11) xP1
            have e0 : rotl 64 (x' ^^^ (d * xP5 % m64)) 11 * xP1 % m64 = x1 x' (r'.getD k 0) := by rw [hdb]; rfl
            rw [e0] at em
            clear e0
            generalize d * xP5 % m64 = y1 at *
            generalize x' ^^^ y1 = y2 at *
            generalize rotl 64 y2 11 = y3 at *
            obtain ⟨z, hz⟩ : ∃ z, z = x1 x' (r'.getD k 0) := ⟨_, rfl⟩
            have hzl : z < m64 := by rw [hz]; exact x1_lt _ _
            rw [← hz] at em hf2
            have z1 : (0 : Int) ≤ (k : Int) := by omega
            have z2 : (k : Int) < (u : Int) := by omega
            have HF := Lib.hid hf2
            have HTN := Lib.hid htn
            clear hdb hz hf2 htn
            go_wp2_with fail
            refine HTN.out.mono ?_
            rintro e w1 ⟨rfl, rfl⟩
            go_wp2_with fail
            go_round
            case rel => exact ⟨k + 1, by go_num, hku, z, rfl, hzl, HF.out⟩
            case measure => simp [intOf]; omega
          · obtain rfl : k = u := by omega
            have hfin : xTail x0 l = x' := by
              rw [HE.out, hf.out, List.drop_of_length_le (Nat.le_of_eq hl2.out)]; rfl
            have HF := Lib.hid hfin
            clear hfin hf
            go_wp2_with fail
            go_ret
            exact ⟨congrArg (fun z : Nat => Ending.returned (Value.int .u64 (z : Int))) HF.out.symm, rfl⟩
end Go.Proofs.Ytgbkpbmilaafgaa
