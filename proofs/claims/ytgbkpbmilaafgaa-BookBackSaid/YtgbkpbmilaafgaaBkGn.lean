/- Contracts and facts, several texts in one. It proves no statement. -/
import Derived.Test.YtgbkpbmilaafgaaBkGf
import Derived.Test.YtgbkpbmilaafgaaBkGe
import Derived.Test.YtgbkpbmilaafgaaBkGg

/- Contracts: what a kind of books (counts) has of its own. It proves no statement. -/

namespace Go.Proofs.Ytgbkpbmilaafgaa
open Go.RowKit
set_option linter.unusedVariables false
set_option linter.unusedSimpArgs false

theorem sizeKd_c : (Try.prog.info? 82).map (·.size) = some 5 := by kernel_rfl
def kV_c : Array Value := #[.string ⟨#[72, 79, 65, 82, 68, 82, 69, 70]⟩, .int .i64 40, .func (.func 56) #[] #[], .func (.func 57) #[] #[], .func (.func 58) #[] #[]]
theorem kind_c (w : World) : Calls Try.prog 32 #[] w fun e w' => e = .returned (.agg kV_c) ∧ Still w w' := by
  obtain ⟨fs, hu⟩ : ∃ fs, Try.prog.underlying 82 = some (.struct fs) := ⟨_, Try.underlying82⟩
  have HU := Lib.hid hu
  clear hu
  go_enter Try.func32, Try.ntmps32
  go_wp2_with (guard_target =~ wpList _ _ _ (Oper.mk none (Op.store _ _ _) _ _ _ _ :: _) _ _; go_must (refine wpList_store_rowTo rfl 82 (.tmp 0) (.tmp 1) rfl rfl w.heap.size kV_c rfl rfl 82 _ (heap_alloc_new w _) (by rw [sizeKd_c]; rfl) (by rfl) (by kernel_rfl) ?_))
  refine bodyPost_ret (results_cell_row rfl _ _ w.heap.size _ _ _ _ rfl (setRow_heap _ _ _ _ _ _ (heap_alloc_new w _)) HU.out rfl (by rw [sizeKd_c]; rfl)) rfl ?_
  exact ⟨rfl, below_setRow ((Below.refl _ _).alloc (Nat.le_refl _) _) (Nat.le_refl _) _⟩
set_option maxRecDepth 100000 in
set_option maxHeartbeats 1600000 in
theorem cells_c (r : Rw) (w : World) (ok : kC.Ok r) : Calls Try.prog 56 #[.agg (rowV r).toArray] w fun e w' => ∃ A g2, e = .returned (.tuple #[.slice A 32 32, .slice (some ⟨g2, 0, none⟩) 2 2]) ∧ Still w w' ∧ Reads w' w'.heap.size A 32 r.1 ∧ Blk w' g2 3 (r.2.map (Value.int .i64)).toArray ∧ w.heap.size ≤ g2 := by
  obtain ⟨wA, g, rv, RB⟩ := rowBox 77 w r
  obtain ⟨x, y, hxyz⟩ : ∃ x y, r.2 = [x, y] := by
    match hr : r.2, ok.2 with
    | [x, y], _ => exact ⟨x, y, rfl⟩
  have hk : r.1.length = 32 := ok.1
  have C := Lib.hid (show ∀ W, Still wA W → W.cell? ⟨g, 32, none⟩ = some (.int .i64 x) ∧ W.cell? ⟨g, 33, none⟩ = some (.int .i64 y) from fun W s => by
    have q := RB.reads s
    have c0 := rangeAt_num q (j := 0) (z := x) (by rw [hxyz]; rfl)
    have c1 := rangeAt_num q (j := 1) (z := y) (by rw [hxyz]; rfl)
    rw [hk] at c0 c1
    exact ⟨c0, c1⟩)
  have HX := Lib.hid hxyz
  have HK := Lib.hid hk
  have al : Try.prog.arrayLen 62 = 32 := by kernel_rfl
  have BX := Lib.hid RB
  rw [← RB.hrv]
  clear RB hk hxyz ok
  go_enter Try.func56, Try.ntmps56
  go_upto_region 1 with (guard_target =~ wpList _ _ _ (Oper.mk (some 1) _ _ _ _ _ :: _) _ _; go_must (refine wpList_box_val rfl 77 (.tmp 0) rfl (some 1) rfl rv rfl ?_); rw [← BX.out.hwA, ← BX.out.hg])
  go_region_held3 (fun W => W.cell? ⟨g, 32, none⟩ = some (.int .i64 x) ∧ W.cell? ⟨g, 33, none⟩ = some (.int .i64 y)) (first | exact C.out _ (Still.refl _).drew | exact C.out _ ((Still.refl _).drew.alloc (Nat.le_refl _) _) | go_keep) (first | fail)
  go_wp2_with fail
  go_ret2
  have s1 : Still wA ((wA.alloc (.cells #[.int .i64 x, .int .i64 y] 3)).drew) := ((Still.refl wA).alloc (Nat.le_refl _) _).drew
  refine ⟨_, _, rfl, Still.trans BX.out.still s1, ?_, ?_, BX.out.still.size⟩
  · refine ⟨HK.out, fun _ => ⟨g, 0, rfl, ?_, fun i hi => ?_⟩⟩
    · have := BX.out.lt; have := s1.size; omega
    · have h := rangeAt_key (BX.out.reads s1) i _ (bytesV_get r.1 i (by rw [HK.out]; exact hi))
      exact h
  · rw [HX.out]
    exact (Blk.new wA 3 #[.int .i64 x, .int .i64 y] : _)
set_option maxRecDepth 100000 in
set_option maxHeartbeats 1600000 in
theorem rises_c (a b : Rw) (w : World) (oa : kC.Ok a) (ob : kC.Ok b) : Calls Try.prog 58 #[.agg (rowV a).toArray, .agg (rowV b).toArray] w fun e w' => e = .returned (.bool (kC.lt a b)) ∧ Still w w' := by
  obtain ⟨wA, ga, av, RA⟩ := rowBox 77 w a
  obtain ⟨wB, gb, bv, RB⟩ := rowBox 77 wA b
  have HC := Lib.hid (less_any a.1 b.1 wB oa.1 ob.1)
  rw [show ltK a.1 b.1 = kC.lt a b from rfl] at HC
  generalize kC.lt a b = q at *
  have QA := Lib.hid (show wB.rangeAt ga 0 (bytesV a.1) from rangeAt_key (RA.reads RB.still))
  have QB := Lib.hid (show wB.rangeAt gb 0 (bytesV b.1) from rangeAt_key (RB.reads (Still.refl _)))
  have SZA := Lib.hid (show (Try.prog.info? 62).map (·.size) = some (bytesV a.1).length from by rw [size32, bytesV_length, oa.1]; rfl)
  have SZB := Lib.hid (show (Try.prog.info? 62).map (·.size) = some (bytesV b.1).length from by rw [size32, bytesV_length, ob.1]; rfl)
  have HA := Lib.hid RA
  have HB := Lib.hid RB
  rw [← RA.hrv, ← RB.hrv]
  clear RA RB oa ob
  go_enter Try.func58, Try.ntmps58
  go_upto_region 1 with (first
    | (guard_target =~ wpList _ _ _ (Oper.mk (some 2) _ _ _ _ _ :: _) _ _; go_must (refine wpList_box_val rfl 77 (.tmp 0) rfl (some 2) rfl av rfl ?_); rw [← HA.out.hwA, ← HA.out.hg])
    | (guard_target =~ wpList _ _ _ (Oper.mk (some 3) _ _ _ _ _ :: _) _ _; go_must (refine wpList_box_val rfl 77 (.tmp 1) rfl (some 3) rfl bv rfl ?_); rw [← HB.out.hwA, ← HB.out.hg]))
  go_wp2_with (first
    | (guard_target =~ wpList _ _ _ (Oper.mk (some 6) _ _ _ _ _ :: _) _ _; go_must (refine wpList_load_mid rfl 62 (.tmp 5) rfl ga 0 rfl (bytesV a.1) _ QA.out under32 rfl SZA.out ?_))
    | (guard_target =~ wpList _ _ _ (Oper.mk (some 8) _ _ _ _ _ :: _) _ _; go_must (refine wpList_load_mid rfl 62 (.tmp 7) rfl gb 0 rfl (bytesV b.1) _ QB.out under32 rfl SZB.out ?_))
    | (go_at_call 54; with_reducible refine HC.out.mono ?_; rintro e w1 ⟨rfl, s1⟩; have S1 := Lib.hid s1; clear s1))
  go_ret
  exact ⟨rfl, Still.trans HA.out.still (Still.trans HB.out.still S1.out)⟩
end Go.Proofs.Ytgbkpbmilaafgaa

/- Contract: whether rows (counts) rise. It proves no statement. -/


namespace Go.Proofs.Ytgbkpbmilaafgaa
open Go.RowKit
set_option linter.unusedVariables false
set_option linter.unusedSimpArgs false

theorem sizeR_c : (Try.prog.info? 77).map (·.size) = some 34 := by kernel_rfl
theorem under_c : ∃ fs, Try.prog.underlying 77 = some (.struct fs) := ⟨_, Try.underlying77⟩
set_option maxRecDepth 100000 in
set_option maxHeartbeats 3200000 in
theorem rise_c {w : World} {A : Option Addr} {n c : Nat} {L : List Rw} (h : RwRow kC w A n c L) (hn : n ≤ 1048576) :
    Calls Try.prog 55 #[.agg kV_c, .slice A n c] w fun e w' => e = .returned (.bool (kC.up L n)) ∧ Still w w' := by
  obtain ⟨wA, hwA⟩ : ∃ wA, wA = w.alloc (.cells kV_c 82) := ⟨_, rfl⟩
  obtain ⟨g, hg⟩ : ∃ g, g = w.heap.size := ⟨_, rfl⟩
  have sA : Still w wA := by rw [hwA]; exact (Still.refl w).alloc (Nat.le_refl _) _
  have kb : ∀ W, Still wA W → Blk W g 82 kV_c := fun W s => by
    refine Blk.still (w := wA) ?_ s
    rw [hwA, hg]; exact Blk.new w _ _
  have CK := Lib.hid (fun (q : StillBy wA) => show q.W.cell? ⟨g, 4, none⟩ = some (.func (.func 58) #[] #[]) from (kb _ q.still).cell 4)
  have RI := Lib.hid (fun a b W (oa : kC.Ok a) (ob : kC.Ok b) => rises_c a b W oa ob)
  have HR := Lib.hid (fun W (s : Still wA W) => h.still (Still.trans sA s))
  have hlen := h.len
  have HWA := Lib.hid hwA
  have HG := Lib.hid hg
  have SA := Lib.hid sA
  have OK := Lib.hid h.ok
  have HLN := Lib.hid hlen
  obtain ⟨kv, hkv⟩ : ∃ kv, kv = kV_c := ⟨_, rfl⟩
  rw [← hkv] at HWA ⊢
  obtain ⟨fs, hu⟩ := under_c
  have UP := Lib.hid hu
  have d3 : (n : Int) ≤ 1048576 := by omega
  have d4 : (n : Int) ≤ (c : Int) := by have := h.row.fit; omega
  clear hwA hg sA kb h hn hlen hkv hu
  go_enter Try.func55, Try.ntmps55
  go_upto_region 1 with (guard_target =~ wpList _ _ _ (Oper.mk (some 2) _ _ _ _ _ :: _) _ _; go_must (refine wpList_box_val rfl 82 (.tmp 0) rfl (some 2) rfl kv rfl ?_); rw [← HWA.out, ← HG.out])
  go_wp2_with fail
  go_loopw [5] (fun iv wr => ∃ i : Nat, (i ≤ n ∨ i = 1) ∧ 1 ≤ i ∧ iv = .int .i64 (i : Int) ∧ Hid (kC.up L i = true ∧ Still wA wr)) (fun iv _ => n + 1 - (intOf iv).toNat)
  case atStart => exact ⟨1, .inr rfl, Nat.le_refl _, rfl, Lib.hid ⟨rfl, Still.refl _⟩⟩
  case round =>
    obtain ⟨i, hin, hi1, rfl, IN⟩ := hrel
    by_cases hlt : i < n
    · obtain ⟨j, rfl⟩ : ∃ j, i = j + 1 := ⟨i - 1, by omega⟩
      have SW := Lib.hid IN.out.2
      obtain ⟨a, ha⟩ : ∃ a, L[j]? = some a := ⟨_, List.getElem?_eq_getElem (by have := HLN.out; omega)⟩
      obtain ⟨b, hb⟩ : ∃ b, L[j + 1]? = some b := ⟨_, List.getElem?_eq_getElem (by have := HLN.out; omega)⟩
      obtain ⟨bb, o, rfl, hbb, _⟩ := (HR.out _ SW.out).at_ ha
      have QA := Lib.hid (fun W (s : Still wA W) => show W.rangeAt bb (o + j * 34) (rowV a) from by
        obtain ⟨b2, o2, e, _, h2⟩ := (HR.out _ s).at_ ha
        cases e
        exact h2)
      have QB := Lib.hid (fun W (s : Still wA W) => show W.rangeAt bb (o + (j + 1) * 34) (rowV b) from by
        obtain ⟨b2, o2, e, _, h2⟩ := (HR.out _ s).at_ hb
        cases e
        exact h2)
      have OA := Lib.hid (OK.out a (List.mem_of_getElem? ha))
      have OB := Lib.hid (OK.out b (List.mem_of_getElem? hb))
      have SZA := Lib.hid (show (Try.prog.info? 77).map (·.size) = some (rowV a).length from by rw [sizeR_c, rowV_length, OA.out.1, OA.out.2]; rfl)
      have SZB := Lib.hid (show (Try.prog.info? 77).map (·.size) = some (rowV b).length from by rw [sizeR_c, rowV_length, OB.out.1, OB.out.2]; rfl)
      have UPS := Lib.hid (show kC.up L (j + 2) = (kC.up L (j + 1) && kC.lt a b) from by
        have e1 : L.getD (j + 1 - 1) rw0 = a := by simp [List.getD, ha]
        have e2 : L.getD (j + 1) rw0 = b := by simp [List.getD, hb]
        show (kC.up L (j + 1) && (decide (j + 1 = 0) || kC.lt (L.getD (j + 1 - 1) rw0) (L.getD (j + 1) rw0))) = _
        rw [e1, e2]
        simp)
      have RI1 := Lib.hid (fun W => RI.out a b W OA.out OB.out)
      obtain ⟨q, hq⟩ : ∃ q, q = kC.lt a b := ⟨_, rfl⟩
      have HQ := Lib.hid hq
      rw [← hq] at RI1
      have NX := Lib.hid (show ∀ i, i = j + 1 → kC.up L (i + 1) = q from fun i e => by
        rw [e, UPS.out, IN.out.1, ← HQ.out, Bool.true_and])
      have NO := Lib.hid (show q = false → kC.up L n = false from fun e => up_no L (i := j + 2) (by have := NX.out (j + 1) rfl; rw [e] at this; exact this) n (by omega))
      obtain ⟨i, hi⟩ : ∃ i, i = j + 1 := ⟨_, rfl⟩
      have ck := CK.out
      have d1 : (i : Int) < (n : Int) := by omega
      have d2 : (j : Int) < (n : Int) := by omega
      have e1 : (i : Int) - 1 = (j : Int) := by omega
      have ew : IntKind.i64.wrap (j : Int) = (j : Int) := by rw [IntKind.wrap_i64]; omega
      have HLT := Lib.hid (show i < n by omega)
      have NX1 := Lib.hid (NX.out i hi)
      rw [← hi] at QB ⊢
      have ec : ((j + 1 : Nat) : Int) = (i : Int) := by omega
      clear ha hb hbb hq hlt hin hi1 NX UPS IN HQ hi
      cases q
      · have NOF := Lib.hid (NO.out rfl)
        clear NX1 NO
        go_upto_region 4 with fail
        refine wp_region_quiet_still wA SW.out (by kernel_rfl) (by kernel_rfl) ?_
        repeat (first
          | (guard_target =~ wpQuiet _ _ _ _ (Oper.mk (some 18) _ _ _ _ _ :: _) _; go_must (refine quiet_load_mid (by kernel_rfl) 77 (.tmp 17) rfl bb (o + j * 34) (by kernel_rfl) (rowV a) _ (fun W hW => by obtain ⟨p, rfl⟩ := hW; exact QA.out _ p.still) UP.out rfl SZA.out ?_))
          | (guard_target =~ wpQuiet _ _ _ _ (Oper.mk (some 22) _ _ _ _ _ :: _) _; go_must (refine quiet_load_mid (by kernel_rfl) 77 (.tmp 21) rfl bb (o + i * 34) (by kernel_rfl) (rowV b) _ (fun W hW => by obtain ⟨p, rfl⟩ := hW; exact QB.out _ p.still) UP.out rfl SZB.out ?_))
          | quiet_step ((go_at_call 58; exact Calls.stillby _ (RI1.out _))))
        refine wpQuiet_nil ?_
        intro wq hw'
        have SQ := Lib.hid (show Still wA wq from by obtain ⟨p, rfl⟩ := hw'; exact p.still)
        clear hw' ck
        go_wp2_with fail
        (try simp only [Exit.inBlock, Exit.then])
        go_ret
        exact ⟨by rw [NOF.out]; rfl, Still.trans SA.out SQ.out⟩
      · clear NO
        go_upto_region 4 with fail
        refine wp_region_quiet_still wA SW.out (by kernel_rfl) (by kernel_rfl) ?_
        repeat (first
          | (guard_target =~ wpQuiet _ _ _ _ (Oper.mk (some 18) _ _ _ _ _ :: _) _; go_must (refine quiet_load_mid (by kernel_rfl) 77 (.tmp 17) rfl bb (o + j * 34) (by kernel_rfl) (rowV a) _ (fun W hW => by obtain ⟨p, rfl⟩ := hW; exact QA.out _ p.still) UP.out rfl SZA.out ?_))
          | (guard_target =~ wpQuiet _ _ _ _ (Oper.mk (some 22) _ _ _ _ _ :: _) _; go_must (refine quiet_load_mid (by kernel_rfl) 77 (.tmp 21) rfl bb (o + i * 34) (by kernel_rfl) (rowV b) _ (fun W hW => by obtain ⟨p, rfl⟩ := hW; exact QB.out _ p.still) UP.out rfl SZB.out ?_))
          | quiet_step ((go_at_call 58; exact Calls.stillby _ (RI1.out _))))
        refine wpQuiet_nil ?_
        intro wq hw'
        have SQ := Lib.hid (show Still wA wq from by obtain ⟨p, rfl⟩ := hw'; exact p.still)
        clear hw' ck e1 ew ec
        go_wp2_with fail
        go_roundw
        case rel => exact ⟨i + 1, .inl HLT.out, by omega, by go_num, Lib.hid ⟨NX1.out, SQ.out⟩⟩
        case measure => simp [intOf]; have := HLT.out; omega
    · have E := Lib.hid (show kC.up L n = true from by
        rcases hin with h | h
        · obtain rfl : i = n := by omega
          exact IN.out.1
        · by_cases h0 : n = 0
          · rw [h0]; rfl
          · obtain rfl : i = n := by omega
            exact IN.out.1)
      have d1 : ¬ (i : Int) < (n : Int) := by omega
      have SW := Lib.hid IN.out.2
      clear hin hi1 IN hlt
      go_wp2_with fail
      go_ret
      exact ⟨by rw [E.out]; rfl, Still.trans SA.out SW.out⟩
end Go.Proofs.Ytgbkpbmilaafgaa

/- Contract: a row (counts) out of a reader. It proves no statement. -/


namespace Go.Proofs.Ytgbkpbmilaafgaa
open Go.RowKit
set_option linter.unusedVariables false
set_option linter.unusedSimpArgs false

theorem zero_c : (Try.prog.info? 77).map (fun i => (i.zero, i.size)) = some (some (.agg (rowV (List.replicate 32 0, List.replicate 2 0)).toArray), 34) := by kernel_rfl
theorem size_c : (Try.prog.info? 77).map (·.size) = some 34 := by kernel_rfl
theorem built_c0 (x y : Int) : Try.prog.built 75 [(0, .int .i64 x), (1, .int .i64 y)] = some #[.int .i64 x, .int .i64 y] := by kernel_rfl
set_option maxRecDepth 100000 in
theorem built_c (K : List UInt8) (hK : K.length = 32) (x y : Int) : Try.prog.built 77 [(0, .agg (bytesV K).toArray), (1, .agg #[.int .i64 x, .int .i64 y])] = some (rowV (K, [x, y])).toArray := by
  obtain ⟨k0, k1, k2, k3, k4, k5, k6, k7, k8, k9, k10, k11, k12, k13, k14, k15, k16, k17, k18, k19, k20, k21, k22, k23, k24, k25, k26, k27, k28, k29, k30, k31, rfl⟩ := list32 K hK
  kernel_rfl
set_option maxRecDepth 100000 in
set_option maxHeartbeats 1600000 in
theorem take_c {w : World} {lo B g : Nat} {l : List UInt8} (h : LiveAny w lo B g l 0) (hl : 40 ≤ l.length) (hg : g < w.heap.size) (hB : B ≤ w.heap.size) :
    Calls Try.prog 57 #[.pointer (some ⟨g, 0, none⟩)] w fun e w' => e = .returned (.agg (rowV (kC.rowAt l)).toArray) ∧ LiveAny w' lo B g (l.drop 40) 0 ∧ w.grownBy w' (some g) := by
  obtain ⟨z0, hz0⟩ : ∃ z, z = (rowV (List.replicate 32 0, List.replicate 2 0)).toArray := ⟨_, rfl⟩
  obtain ⟨wA, hwA⟩ : ∃ wA, wA = w.alloc (.cells z0 77) := ⟨_, rfl⟩
  obtain ⟨g2, hg2⟩ : ∃ g2, g2 = w.heap.size := ⟨_, rfl⟩
  have zA : wA.heap.size = g2 + 1 := by rw [hwA, hg2]; simp
  have sA : Still w wA := by rw [hwA]; exact (Still.refl w).alloc (Nat.le_refl _) _
  have bA : Blk wA g2 77 z0 := by rw [hwA, hg2]; exact Blk.new w _ _
  have HZI := Lib.hid (show (Try.prog.info? 77).map (fun i => (i.zero, i.size)) = some (some (.agg z0), 34) by rw [hz0]; exact zero_c)
  have LV0 := Lib.hid (show LiveAny wA lo B g l 0 from by
    obtain ⟨A, n, c, lv⟩ := h
    exact (lv.below (Below.mono sA hB)).any)
  have NUM := Lib.hid (fun W (lv : wA.grownBy W (some g) ∧ ∃ q : List UInt8, LiveAny W lo B g q 0 ∧ 4 ≤ q.length) => show ∃ q : List UInt8, LiveAny W lo B g q 0 ∧ 4 ≤ q.length from lv.2)
  have GB := Lib.hid (show g < wA.heap.size ∧ B ≤ wA.heap.size from by omega)
  have KEY := Lib.hid (bkey_any LV0.out (by omega) GB.out.1 GB.out.2)
  obtain ⟨K, hK⟩ : ∃ K, K = l.take 32 := ⟨_, rfl⟩
  obtain ⟨l1, hl1⟩ : ∃ l1, l1 = l.drop 32 := ⟨_, rfl⟩
  have hKl : K.length = 32 := by rw [hK, List.length_take]; omega
  rw [← hK, ← hl1] at KEY
  obtain ⟨l2, hl2⟩ : ∃ l2, l2 = l1.drop 4 := ⟨_, rfl⟩
  obtain ⟨l3, hl3⟩ : ∃ l3, l3 = l2.drop 4 := ⟨_, rfl⟩
  obtain ⟨l4, hl4⟩ : ∃ l4, l4 = l3.drop 4 := ⟨_, rfl⟩
  have n1 : l1.length = l.length - 32 := by rw [hl1]; rw [List.length_drop]
  have n2 : l2.length = l1.length - 4 := by rw [hl2, List.length_drop]
  have n3 : l3.length = l2.length - 4 := by rw [hl3, List.length_drop]
  have N1 := Lib.hid (fun W (lv : LiveAny W lo B g l1 0) => bnum_any lv (by omega))
  have N2 := Lib.hid (fun W (lv : LiveAny W lo B g l2 0) => bnum_any lv (by omega))
  obtain ⟨x, hx⟩ : ∃ x, x = leNum (l1.take 4) := ⟨_, rfl⟩
  obtain ⟨y, hy⟩ : ∃ y, y = leNum (l2.take 4) := ⟨_, rfl⟩
  obtain ⟨z, hz⟩ : ∃ z, z = leNum (l3.take 4) := ⟨_, rfl⟩
  have ROW := Lib.hid (show kC.rowAt l = (K, [(x : Int), (y : Int)]) from by
    unfold Kd.rowAt
    show (l.take 32, numsAt 2 (l.drop 32)) = _
    rw [← hK, ← hl1]
    simp only [numsAt, ← hl2, ← hl3, ← hx, ← hy, ← hz])
  have END := Lib.hid (show l3 = l.drop 40 from by
    rw [hl3, hl2, hl1]
    simp only [List.drop_drop])
  rw [← hx, ← hl2] at N1
  rw [← hy, ← hl3] at N2
  have HWA := Lib.hid hwA
  have G2 := Lib.hid hg2
  have BA := Lib.hid bA
  have SA := Lib.hid sA
  have GG := Lib.hid (show g ≠ g2 ∧ g2 < wA.heap.size ∧ w.heap.size = g2 ∧ B ≤ g2 from ⟨by omega, by omega, hg2.symm, by omega⟩)
  have BT := Lib.hid (fun a b (c : Int) => built_c K hKl a b )
  have RS := Lib.hid (show (rowV (K, [(x : Int), (y : Int)])).toArray.size = 34 by simp [rowV_length, hKl])
  have ZS := Lib.hid (show z0.size = 34 by rw [hz0]; simp [rowV_length])
  obtain ⟨fs, hu⟩ : ∃ fs, Try.prog.underlying 77 = some (.struct fs) := ⟨_, Try.underlying77⟩
  have HU := Lib.hid hu
  rw [ROW.out]
  rw [END.out.symm]
  clear hwA hg2 zA sA bA hz0 h hl hg hB hl1 hl2 hl3 hl4 n1 n2 n3 hx hy hz hu NUM
  clear hK hKl
  go_enter Try.func57, Try.ntmps57
  go_upto_region 1 with (guard_target =~ wpList _ _ _ (Oper.mk (some 2) _ _ _ _ _ :: _) _ _; go_must (refine wpList_alloc_arr rfl 77 rfl (some 2) rfl z0 34 HZI.out ?_); rw [← HWA.out, ← G2.out])
  go_wp2_with (first
    | (go_at_call 51; with_reducible refine KEY.out.mono ?_; rintro e w1 ⟨rfl, lv1, gr1⟩; have LV1 := Lib.hid lv1; have GR1 := Lib.hid gr1; clear lv1 gr1)
    | (go_at_call 52; first
        | (with_reducible refine (N2.out _ LV2.out).mono ?_; rintro e w4 ⟨rfl, lv4, gr4⟩; have LV4 := Lib.hid lv4; have GR4 := Lib.hid (grown_trans GR2.out gr4); clear lv4 gr4)
        | (with_reducible refine (N1.out _ LV1.out).mono ?_; rintro e w2 ⟨rfl, lv2, gr2⟩; have LV2 := Lib.hid lv2; have GR2 := Lib.hid (grown_trans GR1.out gr2); clear lv2 gr2))
    | (guard_target =~ wpList _ _ _ (Oper.mk _ (Op.build 75 _) _ _ _ _ :: _) _ _; go_must (refine wpList_buildTo rfl 75 _ rfl (some 9) rfl #[.int .i64 (x : Int), .int .i64 (y : Int)] (by simp only [List.map_toArray, List.map_cons, List.map_nil]; exact built_c0 _ _ ) ?_))
    | (guard_target =~ wpList _ _ _ (Oper.mk _ (Op.build 77 _) _ _ _ _ :: _) _ _; go_must (refine wpList_buildTo rfl 77 _ rfl (some 10) rfl (rowV (K, [(x : Int), (y : Int)])).toArray (by simp only [List.map_toArray, List.map_cons, List.map_nil]; exact BT.out _ _ 0) ?_); have B4 := Lib.hid (show Blk w4 g2 77 z0 from (GR4.out.block g2 GG.out.2.1 (fun e => GG.out.1 (Option.some.inj e).symm)).trans BA.out))
    | (guard_target =~ wpList _ _ _ (Oper.mk none (Op.store _ _ _) _ _ _ _ :: _) _ _; go_must (refine wpList_store_rowTo rfl 77 (.tmp 2) (.tmp 10) rfl rfl g2 (rowV (K, [(x : Int), (y : Int)])).toArray rfl rfl 77 _ B4.out (by rw [size_c, RS.out]) (by rw [ZS.out, RS.out]) (all_oneCell_toArray (rowV_one _)) ?_)))
  refine bodyPost_ret (results_cell_row rfl _ _ g2 _ _ _ _ rfl (setRow_heap w4 _ _ _ _ _ B4.out) HU.out rfl (by rw [size_c, RS.out])) rfl ?_
  have hW : ∀ cs, Below w.heap.size w4 (w4.setRow g2 cs) := fun cs => below_setRow (Below.refl _ _) (by have := GG.out.2.2.1; omega) cs
  obtain ⟨A, n, c, lv⟩ := LV4.out
  exact ⟨rfl, ⟨A, n, c, lv.below (below_setRow (Below.refl _ _) (GG.out.2.2.2) _)⟩, grown_below (grown_trans (grown_of_still SA.out) GR4.out) (hW _)⟩
end Go.Proofs.Ytgbkpbmilaafgaa
