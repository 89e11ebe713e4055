/- Contract: the landed xxh's withRest. It proves no statement. -/
import Derived.Test.YtbnbpfbgoicogaaXxhImp
import Derived.Deep.DeepCutAuto
namespace Go.Proofs.Ytbnbpfbgoicogaa
open Go.RowKit
set_option linter.unusedVariables false
set_option linter.unusedSimpArgs false

/-- A slice that reads, wherever it lies. -/
def Rest (w : World) (B n : Nat) (l : List UInt8) (v : Value) : Prop := ∃ A c, v = .slice A n c ∧ Reads w B A n l ∧ n ≤ c ∧ c ≤ 9223372036854775807
theorem rest_end {w : World} {B k : Nat} {A : Option Addr} {l : List UInt8} (hl : l.length = k) : Rest w B 0 (l.drop k) (.slice A 0 0) := by
  refine ⟨A, 0, rfl, ?_, Nat.le_refl _, by omega⟩
  rw [List.drop_of_length_le (by omega)]
  exact Reads.nil0
theorem rest_drop {w : World} {B n c k b o : Nat} {l : List UInt8} (h : Reads w B (some ⟨b, o, none⟩) n l) (hk : k ≤ n) (hc : n ≤ c) (hm : c ≤ 9223372036854775807) :
    Rest w B (n - k) (l.drop k) (.slice (some ⟨b, o + k, none⟩) (n - k) (c - k)) := by
  have r := h.dropk hk
  simp only [Option.map_some, Addr.add_lit] at r
  exact ⟨_, _, rfl, r, by omega, by omega⟩

set_option maxRecDepth 100000 in
set_option maxHeartbeats 1600000 in
theorem withRest_any (A : Option Addr) (n c : Nat) (l : List UInt8) (x0 : Nat) (w : World) (B : Nat) (h : Reads w B A n l) (hn : n ≤ 70368744177664) (hnc : n ≤ c) (hc : c ≤ 9223372036854775807) (hx0 : x0 < m64) :
    Calls Try.prog 26 #[.int .u64 x0, .slice A n c] w fun e w' => e = .returned (.int .u64 (xTail x0 l : Nat)) ∧ w = w' := by
  have hl := h.1
  have HL := Lib.hid hl
  clear hl
  go_enter Try.func26, Try.ntmps26
  go_wp2_with fail
  go_loopg [0, 1] n (fun g xv bv wr => wr = w ∧ ∃ j : Nat, g + 8 * j = n ∧ Rest w B g (l.drop (8 * j)) bv ∧ ∃ x : Nat, xv = .int .u64 x ∧ x < m64 ∧ Hid (x = xEights x0 l j))
  case atStart => exact ⟨rfl, 0, by omega, ⟨A, c, rfl, h, hnc, hc⟩, x0, rfl, hx0, rfl⟩
  case round =>
    obtain ⟨rfl, j, hgj, ⟨A1, c1, rfl, hr, hgc, hc1⟩, x, rfl, hxl, hx⟩ := hrel
    by_cases h8 : 8 ≤ gk
    · obtain ⟨b, o, rfl, hb, hcc⟩ := hr.at_ (by omega)
      clear hcc
      have hw8 : leNum ((l.drop (8 * j)).take 8) = xWord l (8 * j) := rfl
      have hnum := number_any _ 8 c1 _ wr B (hr.takek (k := 8) (by omega)) (by omega) (by omega)
      rw [hw8] at hnum
      obtain ⟨v, hv⟩ : ∃ v, v = xWord l (8 * j) := ⟨_, rfl⟩
      rw [← hv] at hnum
      have hlz := lane0 v wr
      have ex := u64_xor_nat x (xLane 0 v) hxl (xLane_lt _ _)
      have hxy := xor_lt64 x (xLane 0 v) hxl (xLane_lt _ _)
      have htn := turnk (x ^^^ xLane 0 v) 27 wr hxy (by omega)
      have em : IntKind.u64.wrap ((rotl 64 (x ^^^ xLane 0 v) 27 : Nat) * 11400714785074694791) = ((rotl 64 (x ^^^ xLane 0 v) 27 * xP1 % m64 : Nat) : Int) := wrap_mul (rotl 64 (x ^^^ xLane 0 v) 27) xP1
      have ea2 : IntKind.u64.wrap ((rotl 64 (x ^^^ xLane 0 v) 27 * xP1 % m64 : Nat) + 9650029242287828579) = (((rotl 64 (x ^^^ xLane 0 v) 27 * xP1 % m64 + xP4) % m64 : Nat) : Int) := wrap_add (rotl 64 (x ^^^ xLane 0 v) 27 * xP1 % m64) xP4
      rw [Nat.mod_add_mod] at ea2
      have e0 : (rotl 64 (x ^^^ xLane 0 v) 27 * xP1 + xP4) % m64 = xEights x0 l (j + 1) := by rw [hv, hx.out]; rfl
      rw [e0] at ea2
      clear e0
      generalize xLane 0 v = y at *
      generalize x ^^^ y = y2 at *
      generalize rotl 64 y2 27 = y3 at *
      generalize y3 * xP1 % m64 = y4 at *
      obtain ⟨z, hz⟩ : ∃ z, z = xEights x0 l (j + 1) := ⟨_, rfl⟩
      have hzl : z < m64 := by rw [hz]; exact xEights_lt _ _ _ hx0
      rw [← hz] at ea2
      have HZ := Lib.hid hz
      have HV := Lib.hid hv
      have HNUM := Lib.hid hnum
      have HLZ := Lib.hid hlz
      have HTN := Lib.hid htn
      have HG := Lib.hid hgj
      have z8 : (8 : Int) ≤ (gk : Int) := by omega
      clear hz hv hnum hlz htn hx hw8 hgj
      go_wp2_with fail
      refine HNUM.out.mono ?_
      rintro e w1 ⟨rfl, rfl⟩
      go_wp2_with fail
      refine HLZ.out.mono ?_
      rintro e w1 ⟨rfl, rfl⟩
      go_wp2_with fail
      refine HTN.out.mono ?_
      rintro e w1 ⟨rfl, rfl⟩
      by_cases hc8 : c1 = 8
      · subst hc8
        obtain rfl : gk = 8 := by omega
        go_wp2_with fail
        go_roundg 0
        case measure => omega
        case rel => exact ⟨rfl, j + 1, by have := HG.out; omega, by have := rest_end (w := wr) (B := B) (A := some ⟨b, o, none⟩) hr.1; rw [List.drop_drop] at this; exact this, z, rfl, hzl, HZ.out⟩
      · go_wp2_with fail
        go_roundg (gk - 8)
        case measure => omega
        case rel =>
          refine ⟨rfl, j + 1, by have := HG.out; omega, ?_, z, rfl, hzl, HZ.out⟩
          have := rest_drop hr h8 hgc hc1
          rw [List.drop_drop] at this
          exact this
    · have hll := HL.out
      have hjj : j = l.length / 8 := by omega
      have hEi := hx.out
      have hdr : l.drop (8 * (l.length / 8)) = l.drop (8 * j) := by rw [hjj]
      have hE : xTail x0 l = xEnd x (l.drop (8 * j)) := by rw [← hdr, hEi, hjj]; rfl
      obtain ⟨r, hrd⟩ : ∃ r, r = l.drop (8 * j) := ⟨_, rfl⟩
      rw [← hrd] at hr hE
      have HE := Lib.hid hE
      clear hE hEi hjj hdr hx hrd hll HL h hgj
      have hrl := Lib.hid hr.1
      have z8 : (gk : Int) < 8 := by omega
      go_upto_if 23 with fail
      go_cut [0, 1] (fun s0 s1 wx => ∃ y u : Nat, ∃ r', s0 = .int .u64 y ∧ u < 8 ∧ Rest wr B u r' s1 ∧ y < m64 ∧ Hid (xEnd x r = r'.foldl x1 y) ∧ wx = wr)
      case first =>
        by_cases h4 : 4 ≤ gk
        · obtain ⟨b, o, rfl, hb, hcc⟩ := hr.at_ (by omega)
          clear hcc
          have hnum := number_any _ 4 c1 _ wr B (hr.takek (k := 4) (by omega)) (by omega) (by omega)
          obtain ⟨v, hv⟩ : ∃ v, v = leNum (r.take 4) := ⟨_, rfl⟩
          rw [← hv] at hnum
          have hvm : v * xP1 % m64 < m64 := Nat.mod_lt _ (by decide)
          have em0 : IntKind.u64.wrap ((v : Int) * 11400714785074694791) = ((v * xP1 % m64 : Nat) : Int) := wrap_mul v xP1
          have ex := u64_xor_nat x (v * xP1 % m64) hxl hvm
          have hxy := xor_lt64 x (v * xP1 % m64) hxl hvm
          have htn := turnk (x ^^^ (v * xP1 % m64)) 23 wr hxy (by omega)
          have em : IntKind.u64.wrap (((rotl 64 (x ^^^ (v * xP1 % m64)) 23 : Nat) : Int) * 14029467366897019727) = ((rotl 64 (x ^^^ (v * xP1 % m64)) 23 * xP2 % m64 : Nat) : Int) := wrap_mul (rotl 64 (x ^^^ (v * xP1 % m64)) 23) xP2
          have ea2 : IntKind.u64.wrap (((rotl 64 (x ^^^ (v * xP1 % m64)) 23 * xP2 % m64 : Nat) : Int) + 1609587929392839161) = (((rotl 64 (x ^^^ (v * xP1 % m64)) 23 * xP2 % m64 + xP3) % m64 : Nat) : Int) := wrap_add (rotl 64 (x ^^^ (v * xP1 % m64)) 23 * xP2 % m64) xP3
          rw [Nat.mod_add_mod] at ea2
          have e0 : (rotl 64 (x ^^^ (v * xP1 % m64)) 23 * xP2 + xP3) % m64 = x4 x v := rfl
          rw [e0] at ea2
          clear e0
          generalize v * xP1 % m64 = y at *
          generalize x ^^^ y = y2 at *
          generalize rotl 64 y2 23 = y3 at *
          generalize y3 * xP2 % m64 = y4 at *
          obtain ⟨z, hz⟩ : ∃ z, z = x4 x v := ⟨_, rfl⟩
          have hzl : z < m64 := by rw [hz]; exact x4_lt _ _
          rw [← hz] at ea2
          have hend : xEnd x r = (r.drop 4).foldl x1 z := by
            unfold xEnd
            rw [if_pos (by have := hrl.out; omega), hz, hv]
          have HZ := Lib.hid hend
          have HNUM := Lib.hid hnum
          have HTN := Lib.hid htn
          have z4 : (4 : Int) ≤ (gk : Int) := by omega
          clear hz hv hnum htn hend h8
          go_wp2_with fail
          refine HNUM.out.mono ?_
          rintro e w1 ⟨rfl, rfl⟩
          go_wp2_with fail
          refine HTN.out.mono ?_
          rintro e w1 ⟨rfl, rfl⟩
          by_cases hc4 : c1 = 4
          · subst hc4
            obtain rfl : gk = 4 := by omega
            go_wp2_with fail
            go_meet
            case rel => exact ⟨z, 0, _, rfl, by omega, rest_end hr.1, hzl, HZ.out, rfl⟩
          · go_wp2_with fail
            go_meet
            case rel => exact ⟨z, gk - 4, _, rfl, by omega, rest_drop hr h4 hgc hc1, hzl, HZ.out, rfl⟩
        · have hend : xEnd x r = r.foldl x1 x := by
            unfold xEnd
            rw [if_neg (by have := hrl.out; omega)]
          have HZ := Lib.hid hend
          have z4 : (gk : Int) < 4 := by omega
          clear hend
          go_wp2_with fail
          go_meet
          case rel => exact ⟨x, gk, r, rfl, by omega, ⟨A1, c1, rfl, hr, hgc, hc1⟩, hxl, HZ.out, rfl⟩
      case rest =>
        obtain ⟨y, u, r', rfl, hu, ⟨A2, c2, rfl, hr2, hgc2, hcm2⟩, hy, hf, rfl⟩ := hcut
        have hl2 := Lib.hid hr2.1
        clear hr hgc hc1 hrl hxl z8 h8
        go_wp2_with fail
        go_loop [0, 37] (fun xv iv => ∃ k : Nat, iv = .int .i64 k ∧ k ≤ u ∧ ∃ x' : Nat, xv = .int .u64 x' ∧ x' < m64 ∧ Hid (xEnd x r = (r'.drop k).foldl x1 x')) (fun _ iv => u - (intOf iv).toNat)
        case atStart => exact ⟨0, rfl, by omega, y, rfl, hy, hf⟩
        case round =>
          obtain ⟨k, rfl, hk, x', rfl, hx', hf⟩ := hrel
          by_cases hku : k < u
          · obtain ⟨b, o, hA, hb, hcc⟩ := hr2.at_ (by omega)
            have ck := hcc k hku
            have hlk : k < r'.length := by rw [hl2.out]; exact hku
            have hdk : r'.drop k = r'.getD k 0 :: r'.drop (k + 1) := by
              rw [List.drop_eq_getElem_cons hlk]; simp [List.getD, hlk]
            have hf2 := hf.out
            rw [hdk, List.foldl_cons] at hf2
            subst hA
            clear hcc hdk hf
            obtain ⟨d, hdb⟩ : ∃ d, d = (r'.getD k 0).toNat := ⟨_, rfl⟩
            have hd256 : d < 256 := by rw [hdb]; exact (r'.getD k 0).toNat_lt
            rw [← hdb] at ck
            have hdm : d * xP5 % m64 < m64 := Nat.mod_lt _ (by decide)
            have em0 : IntKind.u64.wrap ((d : Int) * 2870177450012600261) = ((d * xP5 % m64 : Nat) : Int) := wrap_mul d xP5
            have ex := u64_xor_nat x' (d * xP5 % m64) hx' hdm
            have hxy := xor_lt64 x' (d * xP5 % m64) hx' hdm
            have htn := turnk (x' ^^^ (d * xP5 % m64)) 11 wc hxy (by omega)
            have em : IntKind.u64.wrap (((rotl 64 (x' ^^^ (d * xP5 % m64)) 11 : Nat) : Int) * 11400714785074694791) = ((rotl 64 (x' ^^^ (d * xP5 % m64)) 11 * xP1 % m64 : Nat) : Int) := wrap_mul (rotl 64 (x' ^^^ (d * xP5 % m64)) 11) xP1
            have e0 : rotl 64 (x' ^^^ (d * xP5 % m64)) 11 * xP1 % m64 = x1 x' (r'.getD k 0) := by rw [hdb]; rfl
            rw [e0] at em
            clear e0
            generalize d * xP5 % m64 = y1 at *
            generalize x' ^^^ y1 = y2 at *
            generalize rotl 64 y2 11 = y3 at *
            obtain ⟨z, hz⟩ : ∃ z, z = x1 x' (r'.getD k 0) := ⟨_, rfl⟩
            have hzl : z < m64 := by rw [hz]; exact x1_lt _ _
            rw [← hz] at em hf2
            have z1 : (0 : Int) ≤ (k : Int) := by omega
            have z2 : (k : Int) < (u : Int) := by omega
            have HF := Lib.hid hf2
            have HTN := Lib.hid htn
            clear hdb hz hf2 htn
            go_wp2_with fail
            refine HTN.out.mono ?_
            rintro e w1 ⟨rfl, rfl⟩
            go_wp2_with fail
            go_round
            case rel => exact ⟨k + 1, by go_num, hku, z, rfl, hzl, HF.out⟩
            case measure => simp [intOf]; omega
          · obtain rfl : k = u := by omega
            have hfin : xTail x0 l = x' := by
              rw [HE.out, hf.out, List.drop_of_length_le (Nat.le_of_eq hl2.out)]; rfl
            have HF := Lib.hid hfin
            clear hfin hf
            go_wp2_with fail
            go_ret
            exact ⟨congrArg (fun z : Nat => Ending.returned (Value.int .u64 (z : Int))) HF.out.symm, rfl⟩
end Go.Proofs.Ytbnbpfbgoicogaa
