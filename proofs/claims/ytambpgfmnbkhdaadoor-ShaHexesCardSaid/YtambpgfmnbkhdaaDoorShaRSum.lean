/- Contract: the document's own answer for SHA-256. It proves no statement. -/
import Derived.Test.YtambpgfmnbkhdaaDoorShaRSpread
import Derived.Test.YtambpgfmnbkhdaaDoorShaRRounds
import Derived.Test.YtambpgfmnbkhdaaDoorShaPad
import Derived.Test.YtambpgfmnbkhdaaDoorShaIdImp
import Derived.Test.YtambpgfmnbkhdaaDoorFar
namespace Go.Proofs.YtambpgfmnbkhdaaDoor
open Go.RowKit
set_option linter.unusedVariables false
set_option linter.unusedSimpArgs false

theorem own4_base {w : World} {base base' n : Nat} {v : Value} {xs : List Value} (h : w.ownsRow base 46 1 v n xs) (hb : base' ≤ base) : w.ownsRow base' 46 1 v n xs := by
  refine ⟨h.1, ?_⟩
  rcases h.2 with h0 | ⟨g, c, cur, hv, hg, r⟩
  · exact .inl h0
  · exact .inr ⟨g, c, cur, hv, Nat.le_trans hb hg, r⟩
theorem bytes_all (l : List UInt8) : (bytesV l).toArray.all (·.oneCell') = true := by
  rw [Array.all_eq_true_iff_forall_mem]
  intro v hv
  exact bytesV_one l v (by simpa using hv)

set_option maxRecDepth 100000 in
set_option maxHeartbeats 1600000 in
theorem rsum_any (A : Option Addr) (n c : Nat) (l : List UInt8) (w : World) (B : Nat) (h : Reads w B A n l) (hB : B ≤ w.heap.size) (hn : n ≤ 35184372088832) (hA : A = none → n = 0 ∧ c = 0) :
    Calls Tryd.prog 12 #[.slice A n c] w fun e w' => e = .returned (.agg (bytesV (shSum l)).toArray) ∧ Still w w' := by
  have hl := h.1
  obtain ⟨wA, hwA⟩ : ∃ x, x = w.alloc (.cells (bytesV (List.replicate 32 0)).toArray 26) := ⟨_, rfl⟩
  have sA : Still w wA := by rw [hwA]; exact (Still.refl w).alloc (Nat.le_refl _) _
  have aA : Arr wA w.heap.size (List.replicate 32 0) := by rw [hwA]; exact Arr.new _ _
  obtain ⟨P, hP⟩ : ∃ P, P = l ++ shEnd n := ⟨_, rfl⟩
  obtain ⟨N, hN⟩ : ∃ N, N = P.length := ⟨_, rfl⟩
  obtain ⟨Q, hQ⟩ : ∃ Q, N = 64 * Q := ⟨N / 64, by
    have := pad_mod l
    rw [hl, ← hP, ← hN] at this
    omega⟩
  have hN2 : N ≤ n + 80 := by
    rw [hN, hP, List.length_append, shEnd_length, hl]; omega
  have PAD := Lib.hid (rpad_any A n c l wA B (h.still hB sA) (Nat.le_trans hB sA.size) (by omega) hA)
  rw [← hP, ← hN] at PAD
  have hsum : shSum l = idB (shRun sh0 P Q).list := by
    unfold shSum
    rw [hl, ← hP, ← hN, hQ, Nat.mul_div_cancel_left _ (by omega)]
  rw [hsum]
  have SA := Lib.hid sA
  have AA := Lib.hid aA
  have HN := Lib.hid hN
  clear h hB hA hl hP sA aA hsum hN
  go_enter Tryd.func12, Tryd.ntmps12
  go_upto_region 0 with fail
  refine wp_region_lit ?_
  refine wpList_alloc_arr rfl 26 rfl (some 2) rfl _ _ zero32 ?_
  rw [← hwA]
  refine wpList_nil ?_
  clear hwA
  go_wp2_with fail
  refine PAD.out.mono ?_
  rintro e w1 ⟨⟨v1, rfl, own1⟩, s1⟩
  obtain ⟨A1, c1, rfl, f1, f2, f3⟩ := own_form own1
  have q1 := Reads.of_own own1
  have s01 := SA.out.trans s1
  have a1 := AA.out.still s1
  have hwl : w.heap.size < w1.heap.size := Nat.lt_of_lt_of_le AA.out.lt s1.size
  have Q1 := Lib.hid q1
  have S1 := Lib.hid s01
  have AR1 := Lib.hid a1
  have HW := Lib.hid hwl
  clear own1 s1 q1 s01 a1 hwl
  go_wp2_with fail
  go_loopw [4, 5] (fun sv av wr => ∃ k : Nat, k ≤ Q ∧ av = .int .i64 ((64 * k : Nat) : Int) ∧ wr.ownsRow w1.heap.size 46 1 sv 8 (w32 (shRun sh0 P k).list) ∧ Still w1 wr) (fun _ av _ => N + 64 - (intOf av).toNat)
  case atStart => exact ⟨0, by omega, rfl, own8 w1.heap.size w1 (Nat.le_refl _) _ _ _ _ _ _ _ _, (Still.refl w1).alloc (Nat.le_refl _) _⟩
  case round =>
    obtain ⟨k, hk, rfl, own, st⟩ := hrel
    obtain ⟨t, ht⟩ : ∃ t, t = 64 * k := ⟨_, rfl⟩
    rw [← ht]
    by_cases hlt : k < Q
    · obtain ⟨b, o, rfl, hb, -⟩ := Q1.out.at_ (by omega)
      obtain ⟨u, hu⟩ : ∃ u, u = t + 64 := ⟨_, rfl⟩
      have d1 : (t : Int) < (N : Int) := by omega
      have e2' : (t : Int) + 64 = (u : Int) := by omega
      have e2 : IntKind.i64.wrap (u : Int) = (u : Int) := by rw [IntKind.wrap_i64]; omega
      have d3 : (0 : Int) ≤ (t : Int) := by omega
      have d3' : (0 : Int) ≤ (u : Int) := by omega
      have d3'' : (t : Int) ≤ (u : Int) := by omega
      have d4 : (u : Int) ≤ (c1 : Int) := by omega
      have d10 : u - t = 64 := by omega
      have d11 : ¬ c1 = t := by omega
      have hsz := st.size
      have rw1 := ((Q1.out.still (Nat.le_refl _) st).dropk (k := t) (by omega)).takek (k := 64) (by omega)
      simp only [Option.map_some, Addr.add_lit] at rw1
      have SPR := Lib.hid (rspread_any _ (c1 - t) _ wr w1.heap.size rw1 hsz (by omega) (by omega))
      obtain ⟨blk, hblk⟩ : ∃ x, x = (P.drop t).take 64 := ⟨_, rfl⟩
      rw [← hblk] at SPR
      obtain ⟨g, c2, rfl, g1, g2, g3⟩ := own4_form own (by omega)
      have HB := Lib.hid hblk
      have HT := Lib.hid ht
      have HU := Lib.hid hu
      have ST := Lib.hid st
      have OW := Lib.hid own
      have HK := Lib.hid hlt
      clear rw1 hblk ht st own hsz hlt hk hu
      go_wp2_with fail
      refine SPR.out.mono ?_
      rintro e w2 ⟨⟨v2, rfl, own2⟩, s2⟩
      obtain ⟨gg, c3, rfl, h1, h2, h3⟩ := own4_form own2 (by omega)
      have r2 := Reads4.of_own own2 (by omega)
      have rs := Reads4.of_own (own4_still OW.out s2) (by omega)
      have RR := Lib.hid (rrounds_any (shRun sh0 P k) (wTo blk 64) _ c2 _ c3 w2 _ rs r2 (Nat.le_refl _) (shRun_fit sh0_fit _ _) (wTo_lt _ _))
      have ST2 := Lib.hid (ST.out.trans s2)
      clear own2 s2 r2 rs h1 h2 h3
      go_wp2_with fail
      refine RR.out.mono ?_
      rintro e w3 ⟨⟨v3, rfl, own3⟩, s3⟩
      have st3 := ST2.out.trans s3
      have own4 := own4_base own3 ST2.out.size
      have e3 : ((shRun sh0 P k).add (rnds (shRun sh0 P k) (wTo blk 64) 64)).list = (shRun sh0 P (k + 1)).list := by
        rw [HB.out, HT.out]; rfl
      rw [e3] at own4
      clear own3 s3 e3
      go_wp2_with fail
      go_roundw
      case rel =>
        have ht := HT.out
        have hlt := HK.out
        have hu := HU.out
        exact ⟨k + 1, by omega, by go_num, own4, st3⟩
      case measure =>
        have ht := HT.out
        have hlt := HK.out
        have hu := HU.out
        simp [intOf]; omega
    · obtain rfl : k = Q := by omega
      have d1 : ¬ ((t : Int) < (N : Int)) := by omega
      have d1' : t = N := by omega
      subst d1'
      obtain ⟨g, c2, rfl, g1, g2, g3⟩ := own4_form own (by omega)
      have hfit : (shRun sh0 P k).Fit := shRun_fit sh0_fit _ _
      have hw4 := S8.list_lt hfit
      obtain ⟨L, hL⟩ : ∃ L, L = (shRun sh0 P k).list := ⟨_, rfl⟩
      have hLl : L.length = 8 := by rw [hL]; rfl
      rw [← hL] at own hw4
      have hD : (idB L).length = 32 := by rw [idB_length, hLl]
      have a2 := AR1.out.still st
      obtain ⟨wB', hwB⟩ : ∃ x, x = wr.alloc (.cells (bytesV (List.replicate 32 0)).toArray 26) := ⟨_, rfl⟩
      have sB : Still wr wB' := by rw [hwB]; exact (Still.refl wr).alloc (Nat.le_refl _) _
      have aB : Arr wB' wr.heap.size (List.replicate 32 0) := by rw [hwB]; exact Arr.new _ _
      obtain ⟨g6, hg6⟩ : ∃ x, x = wr.heap.size := ⟨_, rfl⟩
      have r4 := (Reads4.of_own own (by omega))
      have HLL := Lib.hid hLl
      have HL := Lib.hid hL
      have HD := Lib.hid hD
      have HW4 := Lib.hid hw4
      have A2 := Lib.hid (a2.still sB)
      have R4 := Lib.hid (r4.still (Nat.le_refl _) sB)
      have SB := Lib.hid (S1.out.trans (st.trans sB))
      have SZ := Lib.hid (show w.heap.size < g6 ∧ g6 < wB'.heap.size from ⟨by have := st.size; have := HW.out; omega, by rw [hwB, hg6]; simp⟩)
      rw [← hg6] at aB R4
      have AB := Lib.hid aB
      clear hLl hL hD hw4 a2 sB aB r4 own st hfit ht hk hlt d1 f1 f2 f3 g1 g2 g3
      go_upto_region 7 with fail
      refine wp_region_lit ?_
      refine wpList_alloc_arr rfl 26 rfl (some 6) rfl _ _ zero32 ?_
      rw [← hwB, ← hg6]
      refine wpList_nil ?_
      clear hwB hg6
      obtain ⟨_, b4, o4, hr4, hb4, hc4⟩ := R4.out
      injection hr4 with hr4
      injection hr4 with hr4 hr5
      subst hr4 hr5
      have HC4 := Lib.hid hc4
      have HB4 := Lib.hid hb4
      clear hc4 hb4 R4
      go_wp2_with fail
      go_loopw [7] (fun iv wr => ∃ i : Nat, i ≤ 8 ∧ iv = .int .i64 i ∧ Hid (Arr wr g6 (fillTo (idB L) (4 * i)) ∧ wB'.grownBy wr (some g6))) (fun iv _ => 8 - (intOf iv).toNat)
      case atStart => exact ⟨0, by omega, rfl, by rw [Nat.mul_zero, fillTo_zero, HD.out]; exact AB.out, World.grownBy.refl _ _⟩
      case round =>
        obtain ⟨i, hi, rfl, hin⟩ := hrel
        by_cases hlt : i < 8
        · have d1 : (i : Int) < 8 := by omega
          have d0 : (0 : Int) ≤ (i : Int) := by omega
          have cc : wr.cell? ⟨g, 0 + i, none⟩ = some (.int .u32 (L.getD i 0 : Nat)) := (hin.out.2.cell_far ⟨g, 0 + i, none⟩ (block_lt_of_cell (HC4.out i hlt)) (fun e => by have h1 := HB4.out; have e' : g = g6 := Option.some.inj e; omega)).trans (HC4.out i hlt)
          rw [Nat.zero_add] at cc
          have hxl : L.getD i 0 < m32 := getD_lt32 HW4.out i
          obtain ⟨x, hx⟩ : ∃ x, x = L.getD i 0 := ⟨_, rfl⟩
          rw [← hx] at cc hxl
          have e2 : IntKind.u64.wrap (x : Int) = (x : Int) := by rw [IntKind.wrap_u64]; simp only [m32] at hxl; omega
          have PT := Lib.hid (rput_yes x 4 wr (by simp only [m32] at hxl; omega) (by omega) (by omega))
          have HX := Lib.hid hx
          have HI := Lib.hid hlt
          clear hx hlt hi hxl
          go_wp2_with fail
          refine PT.out.mono ?_
          rintro e w5 ⟨v5, rfl, own5, s5⟩
          obtain ⟨A5, c5, rfl, i1, i2, i3⟩ := own_form own5
          have q5 := Reads.of_own own5
          have far5 := far_own own5 (hin.out.1.lt)
          have a5 := hin.out.1.still s5
          have Q5 := Lib.hid q5
          have F5 := Lib.hid far5
          have A5h := Lib.hid a5
          have GR5 := Lib.hid (show wB'.grownBy w5 (some g6) from hin.out.2.trans ⟨s5.os, s5.tape, s5.output, s5.size, fun k hk _ => s5.block k hk⟩)
          clear own5 q5 far5 a5 s5 cc
          go_wp2_with fail
          go_loopw [9] (fun kv wr => ∃ k : Nat, k ≤ 4 ∧ kv = .int .i64 k ∧ Hid (Arr wr g6 (fillTo (idB L) (4 * i + k)) ∧ w5.grownBy wr (some g6))) (fun kv _ => 4 - (intOf kv).toNat)
          case atStart => exact ⟨0, by omega, rfl, by rw [Nat.add_zero]; exact A5h.out, World.grownBy.refl _ _⟩
          case round =>
            obtain ⟨k, hk, rfl, hin2⟩ := hrel
            by_cases hlt : k < 4
            · have d1 : (k : Int) < 4 := by omega
              have d0 : (0 : Int) ≤ (k : Int) := by omega
              obtain ⟨b, o, rfl, hb, hcb⟩ := (Q5.out.grown F5.out hin2.out.2).at_ (by omega)
              obtain ⟨p, hp⟩ : ∃ p, p = 3 - k := ⟨_, rfl⟩
              have cb := hcb p (by omega)
              obtain ⟨t, ht⟩ : ∃ t, t = 4 * i := ⟨_, rfl⟩
              obtain ⟨u, hu⟩ : ∃ u, u = t + k := ⟨_, rfl⟩
              have hi8 := HI.out
              have e1 : 4 * (i : Int) = (t : Int) := by omega
              have e1' : IntKind.i64.wrap (t : Int) = (t : Int) := by rw [IntKind.wrap_i64]; omega
              have e3 : (t : Int) + (k : Int) = (u : Int) := by omega
              have e3' : IntKind.i64.wrap (u : Int) = (u : Int) := by rw [IntKind.wrap_i64]; omega
              have e4 : 3 - (k : Int) = (p : Int) := by omega
              have e4' : IntKind.i64.wrap (p : Int) = (p : Int) := by rw [IntKind.wrap_i64]; omega
              have d3 : (0 : Int) ≤ (u : Int) := by omega
              have d4 : (u : Int) < 32 := by omega
              have d5 : (0 : Int) ≤ (p : Int) := by omega
              have d6 : (p : Int) < 4 := by omega
              have ca := hin2.out.1.cell u (by rw [fillTo_length _ _ (by rw [HD.out]; omega), HD.out]; omega)
              have hfro : wr.frozen? ⟨g6, u, none⟩ = false := hin2.out.1.frozen u
              have hbyte : (leBytes x 4).getD p 0 = (idB L).getD u 0 := by
                rw [hu, ht, idB_get L i k (by rw [HLL.out]; omega) hlt, wB_get _ _ hlt, HX.out, hp]
              have hnx := fillTo_next (idB L) u (by rw [HD.out]; omega)
              rw [hbyte] at cb
              obtain ⟨d, hd⟩ : ∃ d, d = (idB L).getD u 0 := ⟨_, rfl⟩
              rw [← hd] at cb hnx
              generalize ((fillTo (idB L) (4 * i + k)).getD u 0).toNat = old at *
              have hu2 : u = 4 * i + k := by omega
              have HN := Lib.hid hnx
              have HU := Lib.hid hu2
              have HK := Lib.hid hlt
              clear hcb hnx hd hbyte hu hp ht hu2 hlt hk hi8
              go_wp2_with fail
              go_roundw
              case rel =>
                have hk := HK.out
                refine ⟨k + 1, by omega, by go_num, ?_, hin2.out.2.trans (grownBy_set _ _ _ _)⟩
                have h := hin2.out.1.set u d
                rw [← HU.out, HN.out] at h
                rw [show 4 * i + (k + 1) = u + 1 by have := HU.out; omega]
                exact h
              case measure => simp [intOf]; have := HK.out; omega
            · obtain rfl : k = 4 := by omega
              rw [show ((4 : Nat) : Int) = 4 from rfl]
              have HI2 := Lib.hid hin2.out
              clear hlt hk hin2
              go_wp2_with fail
              go_roundw
              case rel =>
                have hi8 := HI.out
                refine ⟨i + 1, by omega, by go_num, ?_, GR5.out.trans HI2.out.2⟩
                have h := HI2.out.1
                rw [show 4 * i + 4 = 4 * (i + 1) by omega] at h
                exact h
              case measure => simp [intOf]; have := HI.out; omega
        · obtain rfl : i = 8 := by omega
          rw [show ((8 : Nat) : Int) = 8 from rfl]
          have a6 := hin.out.1
          rw [show 4 * 8 = (idB L).length from HD.out.symm, fillTo_all] at a6
          have a2 : Arr wr w.heap.size (List.replicate 32 0) := A2.out.grown hin.out.2 (by have := SZ.out; omega)
          have st : Still w wr := still_grown SB.out hin.out.2 (by have := SZ.out; omega)
          have hls : (bytesV (idB L)).toArray.size = 32 := by simp [bytesV_length, HD.out]
          have hL32 := HD.out
          obtain ⟨D, hDe⟩ : ∃ D, D = idB L := ⟨_, rfl⟩
          rw [← hDe] at a6 hls hL32
          have HDE := Lib.hid hDe
          clear hDe
          go_upto_region 16 with fail
          refine wp_region_lit ?_
          refine wpList_load_row rfl 26 (.tmp 6) rfl g6 rfl _ _ _ _ a6 under32 rfl (by rw [size32, hls]) ?_
          refine wpList_store_rowTo rfl 26 (.tmp 2) (.tmp 51) rfl rfl w.heap.size (bytesV D).toArray rfl rfl 26 _ a2 (by rw [size32, hls]) (by rw [hls]; rfl) (bytes_all _) ?_
          refine wpList_nil ?_
          have r2 : Arr (wr.setRow w.heap.size (bytesV D).toArray) w.heap.size D := setRow_heap wr _ _ _ _ _ a2
          have st2 : Still w (wr.setRow w.heap.size (bytesV D).toArray) := below_setRow st (Nat.le_refl _) _
          go_wp2_with fail
          refine bodyPost_ret (results_arr rfl _ _ w.heap.size D rfl r2 hL32) rfl ?_
          exact ⟨congrArg (fun L => Ending.returned (Value.agg (bytesV L).toArray)) (by rw [HDE.out, HL.out]), st2⟩
end Go.Proofs.YtambpgfmnbkhdaaDoor
