/- Contract: the words of a block, by the document's own answer. It proves no statement. -/
import Derived.Test.YtambpgfmnbkhdaaDoorShaTurn
import Derived.Test.YtambpgfmnbkhdaaDoorWords
import Derived.Test.YtambpgfmnbkhdaaDoorBack
import Derived.Test.YtambpgfmnbkhdaaDoorLe
import Derived.Deep.RegionHeld3
import Derived.BigQuiet
import Derived.BigFrame
import Derived.StillTailTactics
import Derived.Sort.AtCall
namespace Go.Proofs.YtambpgfmnbkhdaaDoor
open Go.RowKit
set_option linter.unusedVariables false
set_option linter.unusedSimpArgs false

/-- The first spreading, number by number. -/
theorem sgA_facts (y : Nat) (hy : y < m32) : ∃ r7 r18 x q z : Nat, z = sgA y ∧ z < m32 ∧ (∀ w, Calls Tryd.prog 38 #[.int .u32 y, .int .u64 7] w fun e w' => e = .returned (.int .u32 (r7 : Int)) ∧ w' = w) ∧
    (∀ w, Calls Tryd.prog 38 #[.int .u32 y, .int .u64 18] w fun e w' => e = .returned (.int .u32 (r18 : Int)) ∧ w' = w) ∧ (∀ w, Calls Tryd.prog 44 #[.int .u32 y, .int .i64 7] w fun e w' => e = .returned (.int .u32 (r7 : Int)) ∧ w' = w) ∧
    (∀ w, Calls Tryd.prog 44 #[.int .u32 y, .int .i64 18] w fun e w' => e = .returned (.int .u32 (r18 : Int)) ∧ w' = w) ∧ bits .xor .u32 (r7 : Int) (r18 : Int) = (x : Int) ∧ (y : Int) / 8 = (q : Int) ∧ (q : Int) % 4294967296 = (q : Int) ∧ bits .xor .u32 (x : Int) (q : Int) = (z : Int) :=
  ⟨rr y 7, rr y 18, rr y 7 ^^^ rr y 18, y / 8, _, rfl, sgA_lt y hy, fun w => rturned_any y 7 w hy (by omega) (by omega), fun w => rturned_any y 18 w hy (by omega) (by omega), fun w => right_any y 7 w hy (by omega) (by omega), fun w => right_any y 18 w hy (by omega) (by omega),
    u32x _ _ (rr_lt _ _ hy) (rr_lt _ _ hy), by simp, by simp only [m32] at hy; omega, u32x _ _ (xor_lt32 (rr_lt _ _ hy) (rr_lt _ _ hy)) (div_lt32 _ _ hy)⟩
theorem sgB_facts (y : Nat) (hy : y < m32) : ∃ r7 r18 x q z : Nat, z = sgB y ∧ z < m32 ∧ (∀ w, Calls Tryd.prog 38 #[.int .u32 y, .int .u64 17] w fun e w' => e = .returned (.int .u32 (r7 : Int)) ∧ w' = w) ∧
    (∀ w, Calls Tryd.prog 38 #[.int .u32 y, .int .u64 19] w fun e w' => e = .returned (.int .u32 (r18 : Int)) ∧ w' = w) ∧ (∀ w, Calls Tryd.prog 44 #[.int .u32 y, .int .i64 17] w fun e w' => e = .returned (.int .u32 (r7 : Int)) ∧ w' = w) ∧
    (∀ w, Calls Tryd.prog 44 #[.int .u32 y, .int .i64 19] w fun e w' => e = .returned (.int .u32 (r18 : Int)) ∧ w' = w) ∧ bits .xor .u32 (r7 : Int) (r18 : Int) = (x : Int) ∧ (y : Int) / 1024 = (q : Int) ∧ (q : Int) % 4294967296 = (q : Int) ∧ bits .xor .u32 (x : Int) (q : Int) = (z : Int) :=
  ⟨rr y 17, rr y 19, rr y 17 ^^^ rr y 19, y / 1024, _, rfl, sgB_lt y hy, fun w => rturned_any y 17 w hy (by omega) (by omega), fun w => rturned_any y 19 w hy (by omega) (by omega), fun w => right_any y 17 w hy (by omega) (by omega), fun w => right_any y 19 w hy (by omega) (by omega),
    u32x _ _ (rr_lt _ _ hy) (rr_lt _ _ hy), by simp, by simp only [m32] at hy; omega, u32x _ _ (xor_lt32 (rr_lt _ _ hy) (rr_lt _ _ hy)) (div_lt32 _ _ hy)⟩
theorem wTo_succ (b : List UInt8) (n : Nat) : wTo b (n + 1) = wTo b n ++ [wAt b (wTo b n) n] := rfl

set_option maxRecDepth 100000 in
set_option maxHeartbeats 400000 in
theorem rspread_any (A : Option Addr) (c : Nat) (l : List UInt8) (w : World) (B : Nat) (h : Reads w B A 64 l) (hB : B ≤ w.heap.size) (hc : 64 ≤ c) (hm : c ≤ 9223372036854775807) :
    Calls Tryd.prog 28 #[.slice A 64 c] w fun e w' => (∃ v, e = .returned v ∧ w'.ownsRow w.heap.size 46 1 v 64 (w32 (wTo l 64))) ∧ Still w w' := by
  have HL := Lib.hid h
  obtain ⟨b, o, rfl, hb, -⟩ := h.at_ (by omega)
  clear h
  go_enter Tryd.func28, Tryd.ntmps28
  go_wp2_with fail
  go_loopw [3, 4] (fun v i wr => ∃ k : Nat, k ≤ 64 ∧ i = .int .i64 k ∧ wr.ownsRow w.heap.size 46 1 v k (w32 (wTo l k)) ∧ Still w wr) (fun _ i _ => 64 - (intOf i).toNat)
  case atStart => exact ⟨0, by omega, rfl, World.ownsRow_nil _ _ _ _, Still.refl _⟩
  case round =>
    obtain ⟨k, hk, rfl, own, st⟩ := hrel
    by_cases hlt : k < 64
    · have d1 : (k : Int) < 64 := by omega
      by_cases h16 : k < 16
      · have d2 : (k : Int) < 16 := by omega
        obtain ⟨t, ht⟩ : ∃ t, t = 4 * k := ⟨_, rfl⟩
        have e1 : IntKind.i64.wrap (4 * (k : Int)) = (t : Int) := by rw [IntKind.wrap_i64]; omega
        have e2 : IntKind.i64.wrap ((t : Int) + 4) = (t : Int) + 4 := by rw [IntKind.wrap_i64]; omega
        have d3 : (0 : Int) ≤ (t : Int) := by omega
        have d4 : ((t : Int) + 4 ≤ (c : Int)) := by omega
        have d9 : ((t : Int) + 4).toNat = t + 4 := by omega
        have d10 : t + 4 - t = 4 := by omega
        have d11 : ¬ c = t := by omega
        have d12 : (0 : Int) ≤ (t : Int) + 4 := by omega
        have d13 : t ≤ t + 4 := by omega
        have rw1 := ((HL.out.still hB st).dropk (k := t) (by omega)).takek (k := 4) (by omega)
        have hsz := st.size
        simp only [Option.map_some, Addr.add_lit] at rw1
        have BK := Lib.hid (back_any _ 4 (c - t) _ wr B rw1 (Nat.le_trans hB hsz) (by omega))
        have hx : wAt l (wTo l k) k = leNum ((l.drop t).take 4).reverse := by
          unfold wAt
          rw [if_pos h16, ht]; rfl
        have hz := wAt_lt l (wTo l k) k
        obtain ⟨z, hzz⟩ : ∃ z, z = wAt l (wTo l k) k := ⟨_, rfl⟩
        rw [← hzz] at hx hz
        have e5 : IntKind.u32.wrap (z : Int) = (z : Int) := by rw [IntKind.wrap_u32]; simp only [m32] at hz; omega
        have HX := Lib.hid hx
        have HZ := Lib.hid hzz
        have HT := Lib.hid ht
        have ST := Lib.hid st
        have OW := Lib.hid own
        have HS := Lib.hid hsz
        clear rw1 hx hzz ht hz hk st own hsz
        go_wp2_with fail
        refine BK.out.mono ?_
        rintro e w1 ⟨⟨v1, rfl, own1⟩, s1⟩
        obtain ⟨A1, c1, rfl, f1, f2, f3⟩ := own_form own1
        have q1 := Reads.of_own own1
        have G := Lib.hid (rget_yes A1 4 c1 _ w1 _ q1 (by omega) (by omega))
        rw [← HX.out] at G
        have OW1 := Lib.hid (own4_still OW.out s1)
        have ST1 := Lib.hid (ST.out.trans s1)
        clear own1 s1 q1 f1 f2 f3
        go_wp2_with fail
        refine G.out.mono ?_
        rintro e w2 ⟨rfl, rfl⟩
        go_wp2_with (at_builtin; go_must (refine wpList_push4 _ rfl _ _ rfl w.heap.size _ _ _ rfl OW1.out _ z rfl rfl ?c1 ?c2 ?_))
        case c1 => omega
        case c2 => exact ST1.out.size
        intro v' w3 own3 gr3
        have st3 : Still w w3 := ST1.out.grown gr3 ST1.out.size (fun k hk => (OW1.out.lt k hk).1)
        clear gr3
        go_wp2_with fail
        go_roundw
        case rel => exact ⟨k + 1, by omega, by go_num, by rw [wTo_succ, ← HZ.out]; exact own3, st3⟩
        case measure => simp [intOf]; omega
      · have d2 : (16 : Int) ≤ (k : Int) := by omega
        have d2' : ¬ ((k : Int) < 16) := by omega
        obtain ⟨g, c1, rfl, f1, f2, f3⟩ := own4_form own (by omega)
        obtain ⟨p15, hp15⟩ : ∃ p, p = k - 15 := ⟨_, rfl⟩
        obtain ⟨p2, hp2⟩ : ∃ p, p = k - 2 := ⟨_, rfl⟩
        obtain ⟨p16, hp16⟩ : ∃ p, p = k - 16 := ⟨_, rfl⟩
        obtain ⟨p7, hp7⟩ : ∃ p, p = k - 7 := ⟨_, rfl⟩
        have wl := wTo_length l k
        have cl : ∀ p, p < k → wr.cell? ⟨g, p, none⟩ = some (.int .u32 ((wTo l k).getD p 0 : Nat)) := fun p hp => by
          rw [own.cellAt p (by omega), w32_get _ _ (by omega)]
        have c15 := cl p15 (by omega)
        have c2 := cl p2 (by omega)
        have c16 := cl p16 (by omega)
        have c7 := cl p7 (by omega)
        have i15 : (k : Int) - 15 = (p15 : Int) := by omega
        have i2 : (k : Int) - 2 = (p2 : Int) := by omega
        have i16 : (k : Int) - 16 = (p16 : Int) := by omega
        have i7 : (k : Int) - 7 = (p7 : Int) := by omega
        have w15 : IntKind.i64.wrap (p15 : Int) = (p15 : Int) := by rw [IntKind.wrap_i64]; omega
        have w2 : IntKind.i64.wrap (p2 : Int) = (p2 : Int) := by rw [IntKind.wrap_i64]; omega
        have w16 : IntKind.i64.wrap (p16 : Int) = (p16 : Int) := by rw [IntKind.wrap_i64]; omega
        have w7 : IntKind.i64.wrap (p7 : Int) = (p7 : Int) := by rw [IntKind.wrap_i64]; omega
        have l15 : (p15 : Int) < (k : Int) := by omega
        have l2 : (p2 : Int) < (k : Int) := by omega
        have l16 : (p16 : Int) < (k : Int) := by omega
        have l7 : (p7 : Int) < (k : Int) := by omega
        have o15 : (0 : Int) ≤ (p15 : Int) := by omega
        have o2 : (0 : Int) ≤ (p2 : Int) := by omega
        have o16 : (0 : Int) ≤ (p16 : Int) := by omega
        have o7 : (0 : Int) ≤ (p7 : Int) := by omega
        have hx : wAt l (wTo l k) k = ((wTo l k).getD p16 0 + sgA ((wTo l k).getD p15 0) + (wTo l k).getD p7 0 + sgB ((wTo l k).getD p2 0)) % m32 := by
          unfold wAt wNext
          rw [if_neg h16, hp15, hp2, hp16, hp7]
        have b15 := getD_lt32 (wTo_lt l k) p15
        have b2 := getD_lt32 (wTo_lt l k) p2
        generalize (wTo l k).getD p15 0 = y15 at *
        generalize (wTo l k).getD p2 0 = y2 at *
        generalize (wTo l k).getD p16 0 = y16 at *
        generalize (wTo l k).getD p7 0 = y7 at *
        obtain ⟨a7, a18, ax, aq, az, hA, hAl, ta7, ta18, _, _, fa1, fa2, fa4, fa3⟩ := sgA_facts y15 b15
        obtain ⟨b7, b18, bx, bq, bz, hBz, hBl, tb7, tb18, _, _, fb1, fb2, fb4, fb3⟩ := sgB_facts y2 b2
        rw [← hA, ← hBz] at hx
        have hsum := wrap_add4 y16 az y7 bz
        rw [← hx] at hsum
        obtain ⟨z, hzz⟩ : ∃ z, z = wAt l (wTo l k) k := ⟨_, rfl⟩
        rw [← hzz] at hsum
        have HZ := Lib.hid hzz
        have TA7 := Lib.hid ta7
        have TA18 := Lib.hid ta18
        have TB7 := Lib.hid tb7
        have TB18 := Lib.hid tb18
        have ST := Lib.hid st
        have OW := Lib.hid own
        clear hx hzz hA hBz ta7 ta18 tb7 tb18 st own cl wl hp15 hp2 hp16 hp7 hAl hBl b15 b2 hk h16
        go_wp2_with fail
        go_quiet ((first | (go_at_call_has 38 (Value.int .u64 7); exact Calls.quiet_of_same (TA7.out _)) | (go_at_call_has 38 (Value.int .u64 18); exact Calls.quiet_of_same (TA18.out _))))
        obtain ⟨wq, hwq⟩ : ∃ wq, wq = wr.drewN nq := ⟨_, rfl⟩
        rw [← hwq]
        have sq : Still wr wq := by rw [hwq]; exact still_drewN (Still.refl _) _
        have c2 : wq.cell? ⟨g, p2, none⟩ = some (.int .u32 (y2 : Int)) := by rw [hwq]; exact c2
        have c16 : wq.cell? ⟨g, p16, none⟩ = some (.int .u32 (y16 : Int)) := by rw [hwq]; exact c16
        have c7 : wq.cell? ⟨g, p7, none⟩ = some (.int .u32 (y7 : Int)) := by rw [hwq]; exact c7
        clear hwq
        go_wp2_with fail
        go_quiet ((first | (go_at_call_has 38 (Value.int .u64 17); exact Calls.quiet_of_same (TB7.out _)) | (go_at_call_has 38 (Value.int .u64 19); exact Calls.quiet_of_same (TB18.out _))))
        obtain ⟨wp, hwp⟩ : ∃ wp, wp = wq.drewN nq := ⟨_, rfl⟩
        rw [← hwp]
        have sp : Still wr wp := by rw [hwp]; exact still_drewN sq _
        have c16 : wp.cell? ⟨g, p16, none⟩ = some (.int .u32 (y16 : Int)) := by rw [hwp]; exact c16
        have c7 : wp.cell? ⟨g, p7, none⟩ = some (.int .u32 (y7 : Int)) := by rw [hwp]; exact c7
        have OW1 := Lib.hid (own4_still OW.out (sp.drew))
        have ST1 := Lib.hid (ST.out.trans (sp.drew))
        clear hwp sp sq
        go_wp2_with fail
        go_region_held3 (fun w' => w'.cell? ⟨g, p16, none⟩ = some (.int .u32 (y16 : Int)) ∧ w'.cell? ⟨g, p7, none⟩ = some (.int .u32 (y7 : Int))) (first | go_keep | (go_split_ands; exact ⟨by assumption, by assumption⟩))
          ((refine step_push4 _ (by rfl) (.tmp 72) (.tmp 88) (by rfl) w.heap.size _ k _ (by rfl) (OW1.out.alloc _) _ z (by rfl) (by simp) (by omega) (by have := ST1.out.size; simp at this ⊢; omega) ?_
            intro v' w3 own3 gr3 kp3
            have k16 : w3.cell? ⟨g, p16, none⟩ = some (.int .u32 (y16 : Int)) := (kp3 g _ _ rfl p16 (by omega)).trans (by go_split_ands; assumption)
            have k7 : w3.cell? ⟨g, p7, none⟩ = some (.int .u32 (y7 : Int)) := (kp3 g _ _ rfl p7 (by omega)).trans (by go_split_ands; assumption)
            clear kp3
            have st3 : Still w w3 := (ST1.out.alloc (by have := ST1.out.size; simp at this ⊢; omega) _).grown gr3 (by have := ST1.out.size; simp at this ⊢; omega) (fun k hk => (OW1.out.lt k hk).1)
            clear gr3))
        all_goals
          go_wp2_with fail
          go_roundw
          case rel => exact ⟨k + 1, by omega, by go_num, by rw [wTo_succ, ← HZ.out]; exact own3, st3⟩
          case measure => simp [intOf]; omega
    · obtain rfl : k = 64 := by omega
      go_wp2_with fail
      go_ret
      exact ⟨⟨_, rfl, own⟩, st⟩
end Go.Proofs.YtambpgfmnbkhdaaDoor
