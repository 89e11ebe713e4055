/- Contract: 64 rounds, by the document's own answer. It proves no statement. -/
import Derived.Test.YtambpgfmnbkhdaaDoorShaRoundF
import Derived.Test.YtambpgfmnbkhdaaDoorWords
import Derived.Test.YtambpgfmnbkhdaaDoorAllocArr
import Derived.Deep.RegionHeld3
import Derived.Deep.DeepCutAuto
import Derived.BigQuiet
import Derived.BigFrame
import Derived.StillTailTactics
import Derived.Sort.AtCall
namespace Go.Proofs.YtambpgfmnbkhdaaDoor
open Go.RowKit
set_option linter.unusedVariables false
set_option linter.unusedSimpArgs false

def kZ : List Int := kT.map fun (x : Nat) => (x : Int)
theorem kZ_w32 : kZ.map (Value.int .u32) = w32 kT := by simp [kZ, w32]
theorem zero64 : (Tryd.prog.info? 63).map (fun i => (i.zero, i.size)) = some (some (.agg (w32 (List.replicate 64 0)).toArray), 64) := by kernel_rfl
theorem w32_all (l : List Nat) : (w32 l).toArray.all (·.oneCell') = true := by
  rw [Array.all_eq_true_iff_forall_mem]
  intro v hv
  exact w32_one l v (by simpa using hv)
theorem cells_words (w : World) (g : Nat) (l : List Nat) (t : TypeId) (fr : Nat × Nat) (h : w.heap[g]? = some (.cells (w32 l).toArray t fr)) (i : Nat) (hi : i < l.length) : w.cell? ⟨g, i, none⟩ = some (.int .u32 (l.getD i 0 : Nat)) := by
  rw [cell_of_row w g i _ _ _ h, List.getElem?_toArray, w32_get _ _ hi]
theorem own8 (base : Nat) (w : World) (hb : base ≤ w.heap.size) (x0 x1 x2 x3 x4 x5 x6 x7 : Nat) : (w.alloc (.cells (w32 [x0, x1, x2, x3, x4, x5, x6, x7]).toArray 46)).ownsRow base 46 1 (.slice (some ⟨w.heap.size, 0, none⟩) 8 8) 8 (w32 [x0, x1, x2, x3, x4, x5, x6, x7]) :=
  ⟨by simp [w32], .inr ⟨w.heap.size, 8, _, rfl, hb, heap_alloc_new w _, Nat.le_refl _, by unfold maxLen; omega, by simp [w32], by simp [w32]⟩⟩

set_option maxRecDepth 100000 in
set_option maxHeartbeats 800000 in
theorem rrounds_any (s : S8) (l : List Nat) (A1 : Option Addr) (c1 : Nat) (A2 : Option Addr) (c2 : Nat) (w : World) (B : Nat) (h1 : Reads4 w B A1 8 s.list) (h2 : Reads4 w B A2 64 l) (hB : B ≤ w.heap.size) (hs : s.Fit) (hl : ∀ x ∈ l, x < m32) :
    Calls Tryd.prog 27 #[.slice A1 8 c1, .slice A2 64 c2] w fun e w' => (∃ v, e = .returned v ∧ w'.ownsRow w.heap.size 46 1 v 8 (w32 (s.add (rnds s l 64)).list)) ∧ Still w w' := by
  have st : Still w (w.alloc (.cells (w32 kT).toArray 63)) := (Still.refl w).alloc (Nat.le_refl _) _
  have ck := cells_words (w.alloc (.cells (w32 kT).toArray 63)) w.heap.size kT _ _ (heap_alloc_last w _)
  have h1' := h1.still hB st
  have h2' := h2.still hB st
  have HS := Lib.hid hs
  have HLL := Lib.hid hl
  obtain ⟨_, b1, o1, rfl, hb1, hc1⟩ := h1'
  obtain ⟨hl2, b2, o2, rfl, hb2, hc2⟩ := h2'
  clear h1 h2 hs hl
  have CK := Lib.hid ck
  have HC1 := Lib.hid hc1
  have HC2 := Lib.hid hc2
  have ST := Lib.hid st
  have HL2 := Lib.hid hl2
  clear ck hc1 hc2 st hl2
  go_enter Tryd.func27, Tryd.ntmps27
  go_upto_region 1 with fail
  refine wp_region_lit ?_
  refine wpList_buildFlatArrTo rfl 63 46 64 _ rfl .u32 kZ (some 20) rfl Tryd.underlying63 (by as_aux_lemma => kernel_rfl) (by as_aux_lemma => kernel_rfl) (by as_aux_lemma => kernel_rfl) ?_
  rw [kZ_w32]
  refine wpList_alloc_arr rfl 63 rfl (some 5) rfl _ _ zero64 ?_
  refine wpList_store_rowTo rfl 63 (.tmp 5) (.tmp 20) rfl rfl w.heap.size (w32 kT).toArray rfl rfl 63 _ (heap_alloc_last w _) (by as_aux_lemma => kernel_rfl) rfl (w32_all _) ?_
  rw [World.setRow_alloc_new]
  refine wpList_nil ?_
  generalize w.alloc (.cells (w32 kT).toArray 63) = wk at *
  generalize (w32 kT).toArray = karr
  have s0 : wk.cell? ⟨b1, o1, none⟩ = some (.int .u32 (s.a : Int)) := HC1.out 0 (by omega)
  have s1 : wk.cell? ⟨b1, o1 + 1, none⟩ = some (.int .u32 (s.b : Int)) := HC1.out 1 (by omega)
  have s2 : wk.cell? ⟨b1, o1 + 2, none⟩ = some (.int .u32 (s.c : Int)) := HC1.out 2 (by omega)
  have s3 : wk.cell? ⟨b1, o1 + 3, none⟩ = some (.int .u32 (s.d : Int)) := HC1.out 3 (by omega)
  have s4 : wk.cell? ⟨b1, o1 + 4, none⟩ = some (.int .u32 (s.e : Int)) := HC1.out 4 (by omega)
  have s5 : wk.cell? ⟨b1, o1 + 5, none⟩ = some (.int .u32 (s.f : Int)) := HC1.out 5 (by omega)
  have s6 : wk.cell? ⟨b1, o1 + 6, none⟩ = some (.int .u32 (s.g : Int)) := HC1.out 6 (by omega)
  have s7 : wk.cell? ⟨b1, o1 + 7, none⟩ = some (.int .u32 (s.h : Int)) := HC1.out 7 (by omega)
  go_wp2_with fail
  go_quiet (fail)
  obtain ⟨wq, hwq⟩ : ∃ wq, wq = wk.drewN nq := ⟨_, rfl⟩
  rw [← hwq]
  have sq : Still wk wq := by rw [hwq]; exact still_drewN (Still.refl _) _
  have s4 : wq.cell? ⟨b1, o1 + 4, none⟩ = some (.int .u32 (s.e : Int)) := by rw [hwq]; exact s4
  have s5 : wq.cell? ⟨b1, o1 + 5, none⟩ = some (.int .u32 (s.f : Int)) := by rw [hwq]; exact s5
  have s6 : wq.cell? ⟨b1, o1 + 6, none⟩ = some (.int .u32 (s.g : Int)) := by rw [hwq]; exact s6
  have s7 : wq.cell? ⟨b1, o1 + 7, none⟩ = some (.int .u32 (s.h : Int)) := by rw [hwq]; exact s7
  clear hwq
  go_wp2_with fail
  go_quiet (fail)
  obtain ⟨wp, hwp⟩ : ∃ wp, wp = wq.drewN nq := ⟨_, rfl⟩
  rw [← hwp]
  have sp : Still wk wp := by rw [hwp]; exact still_drewN sq _
  clear hwp sq s0 s1 s2 s3 s4 s5 s6 s7
  go_wp2_with fail
  have SP := Lib.hid sp
  clear sp
  go_loopw [6, 7, 8, 9, 10, 11, 12, 13, 14] (fun v6 v7 v8 v9 v10 v11 v12 v13 v14 wr => ∃ (k : Nat) (S : S8), k ≤ 64 ∧ v14 = .int .i64 k ∧ v6 = .int .u32 (S.a : Nat) ∧ v7 = .int .u32 (S.b : Nat) ∧ v8 = .int .u32 (S.c : Nat) ∧ v9 = .int .u32 (S.d : Nat) ∧ v10 = .int .u32 (S.e : Nat) ∧ v11 = .int .u32 (S.f : Nat) ∧ v12 = .int .u32 (S.g : Nat) ∧ v13 = .int .u32 (S.h : Nat) ∧ Hid (S = rnds s l k ∧ Still wk wr)) (fun _ _ _ _ _ _ _ _ i _ => 64 - (intOf i).toNat)
  case atStart => exact ⟨0, s, by omega, rfl, rfl, rfl, rfl, rfl, rfl, rfl, rfl, rfl, rfl, SP.out⟩
  case round =>
    obtain ⟨k, S, hk, rfl, rfl, rfl, rfl, rfl, rfl, rfl, rfl, rfl, hin⟩ := hrel
    by_cases hlt : k < 64
    · have hf : S.Fit := by rw [hin.out.1]; exact rnds_fit HS.out l k
      have d1 : (k : Int) < 64 := by omega
      have d0 : (0 : Int) ≤ (k : Int) := by omega
      have hkt := kT_lt k
      have hwl := getD_lt32 HLL.out k
      have cK : wr.cell? ⟨w.heap.size, k, none⟩ = some (.int .u32 (kT.getD k 0 : Nat)) := (hin.out.2.cell (p := ⟨w.heap.size, k, none⟩) (block_lt_of_cell (CK.out k hlt))).trans (CK.out k hlt)
      have cW : wr.cell? ⟨b2, o2 + k, none⟩ = some (.int .u32 (l.getD k 0 : Nat)) := (hin.out.2.cell (p := ⟨b2, o2 + k, none⟩) (block_lt_of_cell (HC2.out k hlt))).trans (HC2.out k hlt)
      have hst : rnds s l (k + 1) = S.step (kT.getD k 0) (l.getD k 0) := by rw [hin.out.1]; rfl
      generalize kT.getD k 0 = kk at *
      generalize l.getD k 0 = ww at *
      obtain ⟨a, b, c, d, e, f, g, h⟩ := S
      simp only at *
      obtain ⟨e1, e2, e3, ex, ez, hE, te1, te2, te3, fe1, fe2⟩ := bgE_facts e hf.e
      obtain ⟨a1, a2, a3, ax, az, hA, ta1, ta2, ta3, fa1, fa2⟩ := bgA_facts a hf.a
      obtain ⟨n1, n2, n3, cz, hC, fc1, fc2, fc3, fc4, fc5, fc6⟩ := ch_facts e f g hf.e hf.f hf.g
      obtain ⟨m1, m2, m3, mo, mx, mz, hM, fm1, fm2, fm3, fm4, fm5, fm6, fm7⟩ := mj_facts a b c hf.a hf.b hf.c
      have hT : tN ⟨a, b, c, d, e, f, g, h⟩ kk ww = (h + ez + cz + kk + ww) % m32 := by rw [hE, hC]; rfl
      have hU : uN ⟨a, b, c, d, e, f, g, h⟩ = (az + mz) % m32 := by rw [hA, hM]; rfl
      obtain ⟨t, ht⟩ : ∃ t, t = tN ⟨a, b, c, d, e, f, g, h⟩ kk ww := ⟨_, rfl⟩
      have hst2 : rnds s l (k + 1) = ⟨(t + uN ⟨a, b, c, d, e, f, g, h⟩) % m32, a, b, c, (d + t) % m32, e, f, g⟩ := by rw [hst, ht]; rfl
      rw [hU] at hst2
      rw [hT] at ht
      obtain ⟨na, hna⟩ : ∃ x, x = (t + (az + mz) % m32) % m32 := ⟨_, rfl⟩
      obtain ⟨nd, hnd⟩ : ∃ x, x = (d + t) % m32 := ⟨_, rfl⟩
      rw [← hna, ← hnd] at hst2
      have NUM := Lib.hid (And.intro ht (And.intro hna hnd))
      clear hna hnd
      have HST := Lib.hid hst2
      have TE1 := Lib.hid te1
      have TE2 := Lib.hid te2
      have TE3 := Lib.hid te3
      have TA1 := Lib.hid ta1
      have TA2 := Lib.hid ta2
      have TA3 := Lib.hid ta3
      clear te1 te2 te3 ta1 ta2 ta3 hst hst2 hE hA hC hM hT hU ht hf hkt hwl fc5 fc6 fm6 fm7
      go_wp2_with fail
      refine (TE1.out.1 _).mono ?_
      rintro e w1 ⟨rfl, rfl⟩
      go_wp2_with fail
      refine (TE2.out.1 _).mono ?_
      rintro e w1 ⟨rfl, rfl⟩
      go_wp2_with fail
      refine (TE3.out.1 _).mono ?_
      rintro e w1 ⟨rfl, rfl⟩
      go_wp2_with fail
      go_quiet (fail)
      go_wp2_with fail
      refine (TA1.out.1 _).mono ?_
      rintro e w1 ⟨rfl, rfl⟩
      go_wp2_with fail
      refine (TA2.out.1 _).mono ?_
      rintro e w1 ⟨rfl, rfl⟩
      go_wp2_with fail
      refine (TA3.out.1 _).mono ?_
      rintro e w1 ⟨rfl, rfl⟩
      go_wp2_with fail
      go_roundw
      case rel => exact ⟨k + 1, ⟨na, a, b, c, nd, e, f, g⟩, by omega, by go_num, by obtain ⟨q1, q2, q3⟩ := NUM.out; simp only [m32] at q1 q2 q3; exact congrArg (Value.int .u32) (show _ = ((na : Nat) : Int) by omega), rfl, rfl, rfl, by obtain ⟨q1, q2, q3⟩ := NUM.out; simp only [m32] at q1 q2 q3; exact congrArg (Value.int .u32) (show _ = ((nd : Nat) : Int) by omega), rfl, rfl, rfl, HST.out.symm, still_drewN hin.out.2 _⟩
      case measure => simp [intOf]; omega
    · obtain rfl : k = 64 := by omega
      rw [show ((64 : Nat) : Int) = 64 from rfl]
      have cs := fun (i : Nat) (hi : i < 8) => (hin.out.2.cell (p := ⟨b1, o1 + i, none⟩) (block_lt_of_cell (HC1.out i hi))).trans (HC1.out i hi)
      have s0 : wr.cell? ⟨b1, o1, none⟩ = some (.int .u32 (s.a : Int)) := cs 0 (by omega)
      have s1 : wr.cell? ⟨b1, o1 + 1, none⟩ = some (.int .u32 (s.b : Int)) := cs 1 (by omega)
      have s2 : wr.cell? ⟨b1, o1 + 2, none⟩ = some (.int .u32 (s.c : Int)) := cs 2 (by omega)
      have s3 : wr.cell? ⟨b1, o1 + 3, none⟩ = some (.int .u32 (s.d : Int)) := cs 3 (by omega)
      have s4 : wr.cell? ⟨b1, o1 + 4, none⟩ = some (.int .u32 (s.e : Int)) := cs 4 (by omega)
      have s5 : wr.cell? ⟨b1, o1 + 5, none⟩ = some (.int .u32 (s.f : Int)) := cs 5 (by omega)
      have s6 : wr.cell? ⟨b1, o1 + 6, none⟩ = some (.int .u32 (s.g : Int)) := cs 6 (by omega)
      have s7 : wr.cell? ⟨b1, o1 + 7, none⟩ = some (.int .u32 (s.h : Int)) := cs 7 (by omega)
      have stw := ST.out.trans hin.out.2
      have hF : S = rnds s l 64 := hin.out.1
      have HF := Lib.hid hF
      have STW := Lib.hid stw
      clear cs stw hF hin CK HC1 HC2 ST
      obtain ⟨a, b, c, d, e, f, g, h⟩ := S
      obtain ⟨za, zb, zc, zd, ze, zf, zg, zh⟩ := s
      simp only at *
      go_wp2_with fail
      go_still_tail 40, (by kernel_rfl)
      change wpList _ _ _ _ _ wr.drew
      go_wp2_with fail
      go_ret
      have hsz := STW.out.size
      have o := own8 w.heap.size wr.drew hsz ((za + a) % m32) ((zb + b) % m32) ((zc + c) % m32) ((zd + d) % m32) ((ze + e) % m32) ((zf + f) % m32) ((zg + g) % m32) ((zh + h) % m32)
      have e0 : (S8.add ⟨za, zb, zc, zd, ze, zf, zg, zh⟩ (rnds ⟨za, zb, zc, zd, ze, zf, zg, zh⟩ l 64)).list = [(za + a) % m32, (zb + b) % m32, (zc + c) % m32, (zd + d) % m32, (ze + e) % m32, (zf + f) % m32, (zg + g) % m32, (zh + h) % m32] := by
        rw [← HF.out]; rfl
      have e1 : ∀ x y : Nat, (((x + y) % m32 : Nat) : Int) = ((x : Int) + (y : Int)) % 4294967296 := fun x y => by simp [m32]
      rw [e0]
      simp only [w32, List.map_cons, List.map_nil, e1] at o ⊢
      exact ⟨⟨_, rfl, o⟩, STW.out.drew.alloc hsz _⟩
end Go.Proofs.YtambpgfmnbkhdaaDoor
