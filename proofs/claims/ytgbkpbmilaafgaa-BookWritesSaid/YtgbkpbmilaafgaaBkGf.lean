/- Contracts and facts, several texts in one. It proves no statement. -/
import Derived.Test.YtgbkpbmilaafgaaBkGe
import Derived.Deep.RegionHeld3
import Derived.Laws.ResultCell
import Derived.Laws.CopyOwn
import Derived.Test.YtgbkpbmilaafgaaBkGc
import Derived.Laws.BitsAllLaws
import Derived.Test.YtgbkpbmilaafgaaBkGa
import Derived.Laws.IdiomStrings
import Derived.Laws.BytesArg
import Derived.Test.YtgbkpbmilaafgaaBkGb

/- A row in a box of its own. It proves no statement. -/






namespace Go.Proofs.Ytgbkpbmilaafgaa
open Go.RowKit
set_option linter.unusedVariables false
set_option linter.unusedSimpArgs false

/-- A box of a row. -/
structure RowBox (T : TypeId) (w wA : World) (g : Nat) (r : Rw) (rv : Array Value) : Prop where
  hwA : wA = w.alloc (.cells rv T)
  hg : g = w.heap.size
  hrv : rv = (rowV r).toArray
theorem rowBox (T : TypeId) (w : World) (r : Rw) : ∃ wA g rv, RowBox T w wA g r rv := ⟨_, _, _, rfl, rfl, rfl⟩
section
variable {T : TypeId} {w wA : World} {g : Nat} {r : Rw} {rv : Array Value}
theorem RowBox.still (h : RowBox T w wA g r rv) : Still w wA := by rw [h.hwA]; exact (Still.refl w).alloc (Nat.le_refl _) _
theorem RowBox.reads (h : RowBox T w wA g r rv) {W : World} (s : Still wA W) : W.rangeAt g 0 (rowV r) := fun q u hq => by
  have h1 : g < wA.heap.size := by rw [h.hwA, h.hg]; simp
  refine (s.cell (p := ⟨g, 0 + q, none⟩) h1).trans ?_
  rw [h.hwA, h.hg, (Blk.new w _ _).cell, h.hrv, Nat.zero_add, List.getElem?_toArray, hq]
theorem RowBox.lt (h : RowBox T w wA g r rv) : g < wA.heap.size := by rw [h.hwA, h.hg]; simp
theorem RowBox.blk (h : RowBox T w wA g r rv) {W : World} (s : Still wA W) : Blk W g T rv := by
  refine Blk.still (w := wA) ?_ s
  rw [h.hwA, h.hg]
  exact Blk.new w _ _
end
theorem rangeAt_key {W : World} {b o : Nat} {r : Rw} (h : W.rangeAt b o (rowV r)) : W.rangeAt b o (bytesV r.1) := fun j u hj => h j u (rowV_key hj)
theorem rangeAt_num {W : World} {b o : Nat} {r : Rw} (h : W.rangeAt b o (rowV r)) {j : Nat} {z : Int} (hz : r.2[j]? = some z) : W.cell? ⟨b, o + (r.1.length + j), none⟩ = some (.int .i64 z) := h _ _ (rowV_num hz)
end Go.Proofs.Ytgbkpbmilaafgaa

/- Contracts: what a kind of books (index) has of its own. It proves no statement. -/

namespace Go.Proofs.Ytgbkpbmilaafgaa
open Go.RowKit
set_option linter.unusedVariables false
set_option linter.unusedSimpArgs false

theorem sizeKd_i : (Try.prog.info? 71).map (·.size) = some 5 := by kernel_rfl
def kV_i : Array Value := #[.string ⟨#[72, 79, 65, 82, 68, 73, 68, 88]⟩, .int .i64 44, .func (.func 49) #[] #[], .func (.func 50) #[] #[], .func (.func 53) #[] #[]]
theorem kind_i (w : World) : Calls Try.prog 30 #[] w fun e w' => e = .returned (.agg kV_i) ∧ Still w w' := by
  obtain ⟨fs, hu⟩ : ∃ fs, Try.prog.underlying 71 = some (.struct fs) := ⟨_, Try.underlying71⟩
  have HU := Lib.hid hu
  clear hu
  go_enter Try.func30, Try.ntmps30
  go_wp2_with (guard_target =~ wpList _ _ _ (Oper.mk none (Op.store _ _ _) _ _ _ _ :: _) _ _; go_must (refine wpList_store_rowTo rfl 71 (.tmp 0) (.tmp 1) rfl rfl w.heap.size kV_i rfl rfl 71 _ (heap_alloc_new w _) (by rw [sizeKd_i]; rfl) (by rfl) (by kernel_rfl) ?_))
  refine bodyPost_ret (results_cell_row rfl _ _ w.heap.size _ _ _ _ rfl (setRow_heap _ _ _ _ _ _ (heap_alloc_new w _)) HU.out rfl (by rw [sizeKd_i]; rfl)) rfl ?_
  exact ⟨rfl, below_setRow ((Below.refl _ _).alloc (Nat.le_refl _) _) (Nat.le_refl _) _⟩
set_option maxRecDepth 100000 in
set_option maxHeartbeats 1600000 in
theorem cells_i (r : Rw) (w : World) (ok : kI.Ok r) : Calls Try.prog 49 #[.agg (rowV r).toArray] w fun e w' => ∃ A g2, e = .returned (.tuple #[.slice A 32 32, .slice (some ⟨g2, 0, none⟩) 3 3]) ∧ Still w w' ∧ Reads w' w'.heap.size A 32 r.1 ∧ Blk w' g2 3 (r.2.map (Value.int .i64)).toArray ∧ w.heap.size ≤ g2 := by
  obtain ⟨wA, g, rv, RB⟩ := rowBox 66 w r
  obtain ⟨x, y, z, hxyz⟩ : ∃ x y z, r.2 = [x, y, z] := by
    match hr : r.2, ok.2 with
    | [x, y, z], _ => exact ⟨x, y, z, rfl⟩
  have hk : r.1.length = 32 := ok.1
  have C := Lib.hid (show ∀ W, Still wA W → W.cell? ⟨g, 32, none⟩ = some (.int .i64 x) ∧ W.cell? ⟨g, 33, none⟩ = some (.int .i64 y) ∧ W.cell? ⟨g, 34, none⟩ = some (.int .i64 z) from fun W s => by
    have q := RB.reads s
    have c0 := rangeAt_num q (j := 0) (z := x) (by rw [hxyz]; rfl)
    have c1 := rangeAt_num q (j := 1) (z := y) (by rw [hxyz]; rfl)
    have c2 := rangeAt_num q (j := 2) (z := z) (by rw [hxyz]; rfl)
    rw [hk] at c0 c1 c2
    exact ⟨c0, c1, c2⟩)
  have HX := Lib.hid hxyz
  have HK := Lib.hid hk
  have al : Try.prog.arrayLen 62 = 32 := by kernel_rfl
  have BX := Lib.hid RB
  rw [← RB.hrv]
  clear RB hk hxyz ok
  go_enter Try.func49, Try.ntmps49
  go_upto_region 1 with (guard_target =~ wpList _ _ _ (Oper.mk (some 1) _ _ _ _ _ :: _) _ _; go_must (refine wpList_box_val rfl 66 (.tmp 0) rfl (some 1) rfl rv rfl ?_); rw [← BX.out.hwA, ← BX.out.hg])
  go_region_held3 (fun W => W.cell? ⟨g, 32, none⟩ = some (.int .i64 x) ∧ W.cell? ⟨g, 33, none⟩ = some (.int .i64 y) ∧ W.cell? ⟨g, 34, none⟩ = some (.int .i64 z)) (first | exact C.out _ (Still.refl _).drew | exact C.out _ ((Still.refl _).drew.alloc (Nat.le_refl _) _) | go_keep) (first | fail)
  go_wp2_with fail
  go_ret2
  have s1 : Still wA ((wA.alloc (.cells #[.int .i64 x, .int .i64 y, .int .i64 z] 3)).drew) := ((Still.refl wA).alloc (Nat.le_refl _) _).drew
  refine ⟨_, _, rfl, Still.trans BX.out.still s1, ?_, ?_, BX.out.still.size⟩
  · refine ⟨HK.out, fun _ => ⟨g, 0, rfl, ?_, fun i hi => ?_⟩⟩
    · have := BX.out.lt; have := s1.size; omega
    · have h := rangeAt_key (BX.out.reads s1) i _ (bytesV_get r.1 i (by rw [HK.out]; exact hi))
      exact h
  · rw [HX.out]
    exact (Blk.new wA 3 #[.int .i64 x, .int .i64 y, .int .i64 z] : _)
set_option maxRecDepth 100000 in
set_option maxHeartbeats 1600000 in
theorem rises_i (a b : Rw) (w : World) (oa : kI.Ok a) (ob : kI.Ok b) : Calls Try.prog 53 #[.agg (rowV a).toArray, .agg (rowV b).toArray] w fun e w' => e = .returned (.bool (kI.lt a b)) ∧ Still w w' := by
  obtain ⟨wA, ga, av, RA⟩ := rowBox 66 w a
  obtain ⟨wB, gb, bv, RB⟩ := rowBox 66 wA b
  have HC := Lib.hid (less_any a.1 b.1 wB oa.1 ob.1)
  rw [show ltK a.1 b.1 = kI.lt a b from rfl] at HC
  generalize kI.lt a b = q at *
  have QA := Lib.hid (show wB.rangeAt ga 0 (bytesV a.1) from rangeAt_key (RA.reads RB.still))
  have QB := Lib.hid (show wB.rangeAt gb 0 (bytesV b.1) from rangeAt_key (RB.reads (Still.refl _)))
  have SZA := Lib.hid (show (Try.prog.info? 62).map (·.size) = some (bytesV a.1).length from by rw [size32, bytesV_length, oa.1]; rfl)
  have SZB := Lib.hid (show (Try.prog.info? 62).map (·.size) = some (bytesV b.1).length from by rw [size32, bytesV_length, ob.1]; rfl)
  have HA := Lib.hid RA
  have HB := Lib.hid RB
  rw [← RA.hrv, ← RB.hrv]
  clear RA RB oa ob
  go_enter Try.func53, Try.ntmps53
  go_upto_region 1 with (first
    | (guard_target =~ wpList _ _ _ (Oper.mk (some 2) _ _ _ _ _ :: _) _ _; go_must (refine wpList_box_val rfl 66 (.tmp 0) rfl (some 2) rfl av rfl ?_); rw [← HA.out.hwA, ← HA.out.hg])
    | (guard_target =~ wpList _ _ _ (Oper.mk (some 3) _ _ _ _ _ :: _) _ _; go_must (refine wpList_box_val rfl 66 (.tmp 1) rfl (some 3) rfl bv rfl ?_); rw [← HB.out.hwA, ← HB.out.hg]))
  go_wp2_with (first
    | (guard_target =~ wpList _ _ _ (Oper.mk (some 6) _ _ _ _ _ :: _) _ _; go_must (refine wpList_load_mid rfl 62 (.tmp 5) rfl ga 0 rfl (bytesV a.1) _ QA.out under32 rfl SZA.out ?_))
    | (guard_target =~ wpList _ _ _ (Oper.mk (some 8) _ _ _ _ _ :: _) _ _; go_must (refine wpList_load_mid rfl 62 (.tmp 7) rfl gb 0 rfl (bytesV b.1) _ QB.out under32 rfl SZB.out ?_))
    | (go_at_call 54; with_reducible refine HC.out.mono ?_; rintro e w1 ⟨rfl, s1⟩; have S1 := Lib.hid s1; clear s1))
  go_ret
  exact ⟨rfl, Still.trans HA.out.still (Still.trans HB.out.still S1.out)⟩
end Go.Proofs.Ytgbkpbmilaafgaa

/- Contract: whether rows (index) rise. It proves no statement. -/


namespace Go.Proofs.Ytgbkpbmilaafgaa
open Go.RowKit
set_option linter.unusedVariables false
set_option linter.unusedSimpArgs false

theorem sizeR_i : (Try.prog.info? 66).map (·.size) = some 35 := by kernel_rfl
theorem under_i : ∃ fs, Try.prog.underlying 66 = some (.struct fs) := ⟨_, Try.underlying66⟩
set_option maxRecDepth 100000 in
set_option maxHeartbeats 3200000 in
theorem rise_i {w : World} {A : Option Addr} {n c : Nat} {L : List Rw} (h : RwRow kI w A n c L) (hn : n ≤ 1048576) :
    Calls Try.prog 47 #[.agg kV_i, .slice A n c] w fun e w' => e = .returned (.bool (kI.up L n)) ∧ Still w w' := by
  obtain ⟨wA, hwA⟩ : ∃ wA, wA = w.alloc (.cells kV_i 71) := ⟨_, rfl⟩
  obtain ⟨g, hg⟩ : ∃ g, g = w.heap.size := ⟨_, rfl⟩
  have sA : Still w wA := by rw [hwA]; exact (Still.refl w).alloc (Nat.le_refl _) _
  have kb : ∀ W, Still wA W → Blk W g 71 kV_i := fun W s => by
    refine Blk.still (w := wA) ?_ s
    rw [hwA, hg]; exact Blk.new w _ _
  have CK := Lib.hid (fun (q : StillBy wA) => show q.W.cell? ⟨g, 4, none⟩ = some (.func (.func 53) #[] #[]) from (kb _ q.still).cell 4)
  have RI := Lib.hid (fun a b W (oa : kI.Ok a) (ob : kI.Ok b) => rises_i a b W oa ob)
  have HR := Lib.hid (fun W (s : Still wA W) => h.still (Still.trans sA s))
  have hlen := h.len
  have HWA := Lib.hid hwA
  have HG := Lib.hid hg
  have SA := Lib.hid sA
  have OK := Lib.hid h.ok
  have HLN := Lib.hid hlen
  obtain ⟨kv, hkv⟩ : ∃ kv, kv = kV_i := ⟨_, rfl⟩
  rw [← hkv] at HWA ⊢
  obtain ⟨fs, hu⟩ := under_i
  have UP := Lib.hid hu
  have d3 : (n : Int) ≤ 1048576 := by omega
  have d4 : (n : Int) ≤ (c : Int) := by have := h.row.fit; omega
  clear hwA hg sA kb h hn hlen hkv hu
  go_enter Try.func47, Try.ntmps47
  go_upto_region 1 with (guard_target =~ wpList _ _ _ (Oper.mk (some 2) _ _ _ _ _ :: _) _ _; go_must (refine wpList_box_val rfl 71 (.tmp 0) rfl (some 2) rfl kv rfl ?_); rw [← HWA.out, ← HG.out])
  go_wp2_with fail
  go_loopw [5] (fun iv wr => ∃ i : Nat, (i ≤ n ∨ i = 1) ∧ 1 ≤ i ∧ iv = .int .i64 (i : Int) ∧ Hid (kI.up L i = true ∧ Still wA wr)) (fun iv _ => n + 1 - (intOf iv).toNat)
  case atStart => exact ⟨1, .inr rfl, Nat.le_refl _, rfl, Lib.hid ⟨rfl, Still.refl _⟩⟩
  case round =>
    obtain ⟨i, hin, hi1, rfl, IN⟩ := hrel
    by_cases hlt : i < n
    · obtain ⟨j, rfl⟩ : ∃ j, i = j + 1 := ⟨i - 1, by omega⟩
      have SW := Lib.hid IN.out.2
      obtain ⟨a, ha⟩ : ∃ a, L[j]? = some a := ⟨_, List.getElem?_eq_getElem (by have := HLN.out; omega)⟩
      obtain ⟨b, hb⟩ : ∃ b, L[j + 1]? = some b := ⟨_, List.getElem?_eq_getElem (by have := HLN.out; omega)⟩
      obtain ⟨bb, o, rfl, hbb, _⟩ := (HR.out _ SW.out).at_ ha
      have QA := Lib.hid (fun W (s : Still wA W) => show W.rangeAt bb (o + j * 35) (rowV a) from by
        obtain ⟨b2, o2, e, _, h2⟩ := (HR.out _ s).at_ ha
        cases e
        exact h2)
      have QB := Lib.hid (fun W (s : Still wA W) => show W.rangeAt bb (o + (j + 1) * 35) (rowV b) from by
        obtain ⟨b2, o2, e, _, h2⟩ := (HR.out _ s).at_ hb
        cases e
        exact h2)
      have OA := Lib.hid (OK.out a (List.mem_of_getElem? ha))
      have OB := Lib.hid (OK.out b (List.mem_of_getElem? hb))
      have SZA := Lib.hid (show (Try.prog.info? 66).map (·.size) = some (rowV a).length from by rw [sizeR_i, rowV_length, OA.out.1, OA.out.2]; rfl)
      have SZB := Lib.hid (show (Try.prog.info? 66).map (·.size) = some (rowV b).length from by rw [sizeR_i, rowV_length, OB.out.1, OB.out.2]; rfl)
      have UPS := Lib.hid (show kI.up L (j + 2) = (kI.up L (j + 1) && kI.lt a b) from by
        have e1 : L.getD (j + 1 - 1) rw0 = a := by simp [List.getD, ha]
        have e2 : L.getD (j + 1) rw0 = b := by simp [List.getD, hb]
        show (kI.up L (j + 1) && (decide (j + 1 = 0) || kI.lt (L.getD (j + 1 - 1) rw0) (L.getD (j + 1) rw0))) = _
        rw [e1, e2]
        simp)
      have RI1 := Lib.hid (fun W => RI.out a b W OA.out OB.out)
      obtain ⟨q, hq⟩ : ∃ q, q = kI.lt a b := ⟨_, rfl⟩
      have HQ := Lib.hid hq
      rw [← hq] at RI1
      have NX := Lib.hid (show ∀ i, i = j + 1 → kI.up L (i + 1) = q from fun i e => by
        rw [e, UPS.out, IN.out.1, ← HQ.out, Bool.true_and])
      have NO := Lib.hid (show q = false → kI.up L n = false from fun e => up_no L (i := j + 2) (by have := NX.out (j + 1) rfl; rw [e] at this; exact this) n (by omega))
      obtain ⟨i, hi⟩ : ∃ i, i = j + 1 := ⟨_, rfl⟩
      have ck := CK.out
      have d1 : (i : Int) < (n : Int) := by omega
      have d2 : (j : Int) < (n : Int) := by omega
      have e1 : (i : Int) - 1 = (j : Int) := by omega
      have ew : IntKind.i64.wrap (j : Int) = (j : Int) := by rw [IntKind.wrap_i64]; omega
      have HLT := Lib.hid (show i < n by omega)
      have NX1 := Lib.hid (NX.out i hi)
      rw [← hi] at QB ⊢
      have ec : ((j + 1 : Nat) : Int) = (i : Int) := by omega
      clear ha hb hbb hq hlt hin hi1 NX UPS IN HQ hi
      cases q
      · have NOF := Lib.hid (NO.out rfl)
        clear NX1 NO
        go_upto_region 4 with fail
        refine wp_region_quiet_still wA SW.out (by kernel_rfl) (by kernel_rfl) ?_
        repeat (first
          | (guard_target =~ wpQuiet _ _ _ _ (Oper.mk (some 18) _ _ _ _ _ :: _) _; go_must (refine quiet_load_mid (by kernel_rfl) 66 (.tmp 17) rfl bb (o + j * 35) (by kernel_rfl) (rowV a) _ (fun W hW => by obtain ⟨p, rfl⟩ := hW; exact QA.out _ p.still) UP.out rfl SZA.out ?_))
          | (guard_target =~ wpQuiet _ _ _ _ (Oper.mk (some 22) _ _ _ _ _ :: _) _; go_must (refine quiet_load_mid (by kernel_rfl) 66 (.tmp 21) rfl bb (o + i * 35) (by kernel_rfl) (rowV b) _ (fun W hW => by obtain ⟨p, rfl⟩ := hW; exact QB.out _ p.still) UP.out rfl SZB.out ?_))
          | quiet_step ((go_at_call 53; exact Calls.stillby _ (RI1.out _))))
        refine wpQuiet_nil ?_
        intro wq hw'
        have SQ := Lib.hid (show Still wA wq from by obtain ⟨p, rfl⟩ := hw'; exact p.still)
        clear hw' ck
        go_wp2_with fail
        (try simp only [Exit.inBlock, Exit.then])
        go_ret
        exact ⟨by rw [NOF.out]; rfl, Still.trans SA.out SQ.out⟩
      · clear NO
        go_upto_region 4 with fail
        refine wp_region_quiet_still wA SW.out (by kernel_rfl) (by kernel_rfl) ?_
        repeat (first
          | (guard_target =~ wpQuiet _ _ _ _ (Oper.mk (some 18) _ _ _ _ _ :: _) _; go_must (refine quiet_load_mid (by kernel_rfl) 66 (.tmp 17) rfl bb (o + j * 35) (by kernel_rfl) (rowV a) _ (fun W hW => by obtain ⟨p, rfl⟩ := hW; exact QA.out _ p.still) UP.out rfl SZA.out ?_))
          | (guard_target =~ wpQuiet _ _ _ _ (Oper.mk (some 22) _ _ _ _ _ :: _) _; go_must (refine quiet_load_mid (by kernel_rfl) 66 (.tmp 21) rfl bb (o + i * 35) (by kernel_rfl) (rowV b) _ (fun W hW => by obtain ⟨p, rfl⟩ := hW; exact QB.out _ p.still) UP.out rfl SZB.out ?_))
          | quiet_step ((go_at_call 53; exact Calls.stillby _ (RI1.out _))))
        refine wpQuiet_nil ?_
        intro wq hw'
        have SQ := Lib.hid (show Still wA wq from by obtain ⟨p, rfl⟩ := hw'; exact p.still)
        clear hw' ck e1 ew ec
        go_wp2_with fail
        go_roundw
        case rel => exact ⟨i + 1, .inl HLT.out, by omega, by go_num, Lib.hid ⟨NX1.out, SQ.out⟩⟩
        case measure => simp [intOf]; have := HLT.out; omega
    · have E := Lib.hid (show kI.up L n = true from by
        rcases hin with h | h
        · obtain rfl : i = n := by omega
          exact IN.out.1
        · by_cases h0 : n = 0
          · rw [h0]; rfl
          · obtain rfl : i = n := by omega
            exact IN.out.1)
      have d1 : ¬ (i : Int) < (n : Int) := by omega
      have SW := Lib.hid IN.out.2
      clear hin hi1 IN hlt
      go_wp2_with fail
      go_ret
      exact ⟨by rw [E.out]; rfl, Still.trans SA.out SW.out⟩
end Go.Proofs.Ytgbkpbmilaafgaa

/- Contract: bytes as a number, the lowest first. It proves no statement. -/



namespace Go.Proofs.Ytgbkpbmilaafgaa
open Go.RowKit
set_option linter.unusedVariables false
set_option linter.unusedSimpArgs false

theorem get_or (y d k : Nat) (hy : y < 2 ^ (8 * k)) (hd : d < 256) (hk : k ≤ 7) :
    bits BinOp.or IntKind.u64 (y : Int) (IntKind.u64.wrap ((d : Int) * 2 ^ (8 * k))) = ((y + d * 2 ^ (8 * k) : Nat) : Int) := by
  have hp := pow_le8 k hk
  have hm : d * 2 ^ (8 * k) ≤ 255 * 72057594037927936 := Nat.mul_le_mul (by omega) hp
  have e : (d : Int) * 2 ^ (8 * k) = ((d * 2 ^ (8 * k) : Nat) : Int) := by simp
  rw [e, u64_wrap_nat _ (by omega), u64_or_nat _ _ (by omega) (by omega), Nat.or_comm, nat_join (8 * k) _ _ (by simp) hy, Nat.add_comm]
set_option maxHeartbeats 400000 in
theorem get_yes (A : Option Addr) (n c : Nat) (l : List UInt8) (w : World) (B : Nat) (h : Reads w B A n l) (h1 : 1 ≤ n) (h2 : n ≤ 8) :
    Calls Try.prog 87 #[.slice A n c] w fun e w' => e = .returned (.tuple #[.int .u64 (leNum l : Int), .bool true]) ∧ w = w' := by
  have hl := h.1
  obtain ⟨b, o, rfl, hb, hc⟩ := h.at_ (by omega)
  go_enter Try.func87, Try.ntmps87
  go_wp2_with (go_at_call 71; refine (fits_yes _ _ (by omega) (by omega)).mono ?_; rintro e w' ⟨rfl, rfl⟩)
  go_loop [4, 13] (fun x i => ∃ k : Nat, k ≤ n ∧ i = .int .i64 k ∧ ∃ y : Nat, x = .int .u64 y ∧ Hid (y = leNum (l.take k))) (fun _ i => n - (intOf i).toNat)
  case atStart => exact ⟨0, Nat.zero_le _, rfl, 0, rfl, rfl⟩
  case round =>
    obtain ⟨k, hk, rfl, y, rfl, hy⟩ := hrel
    by_cases hlt : k < n
    · have c1 := hc k hlt
      obtain ⟨d, hd⟩ : ∃ d, d = (l.getD k 0).toNat := ⟨_, rfl⟩
      rw [← hd] at c1
      have hd' : d < 256 := by rw [hd]; exact (l.getD k 0).toNat_lt
      have HD := Lib.hid hd
      clear hc hd
      go_wp2_with fail
      go_round
      case rel =>
        have hyb : y < 2 ^ (8 * k) := by
          have := leNum_lt (l.take k)
          rw [hy.out]
          simpa [show min k l.length = k by omega] using this
        refine ⟨k + 1, by omega, by go_num, y + d * 2 ^ (8 * k), ?_, ?_⟩
        · rw [get_or y d k hyb hd' (by omega)]
        · show _ = _
          rw [leNum_take l k (by omega), hy.out, HD.out]
      case measure => simp [intOf]; omega
    · obtain rfl : k = n := by omega
      have e := hy.out
      rw [List.take_of_length_le (by omega)] at e
      have E := Lib.hid e
      clear e hy
      go_wp2_with fail
      go_ret2
      rw [E.out]
      exact ⟨rfl, rfl⟩
theorem get_no (A : Option Addr) (n c : Nat) (w : World) (h : n < 1 ∨ 8 < n) :
    Calls Try.prog 87 #[.slice A n c] w fun e w' => e = .returned (.tuple #[.int .u64 0, .bool false]) ∧ w = w' := by
  go_enter Try.func87, Try.ntmps87
  go_wp2_with (go_at_call 71; refine (fits_no _ _ (by omega)).mono ?_; rintro e w' ⟨rfl, rfl⟩)
  go_ret2
  exact ⟨rfl, rfl⟩
end Go.Proofs.Ytgbkpbmilaafgaa

/- 'string(b)' of bytes that read. It proves no statement. -/



namespace Go.Proofs.Ytgbkpbmilaafgaa
open Go.RowKit
set_option linter.unusedVariables false
set_option linter.unusedSimpArgs false

/-- 'string(b)'. -/
theorem conv_reads {w : World} {B n : Nat} {A : Option Addr} {l : List UInt8} (h : Reads w B A n l) (c : Nat) :
    (convert 27 9 (.slice A n c)).run Try.prog w = .ok (.string ⟨l.toArray⟩) w := by
  obtain rfl := h.1
  rcases A with _ | ad
  · have hl : l = [] := by
      rcases l with _ | ⟨x, r⟩
      · rfl
      · obtain ⟨_, _, e, _⟩ := h.2 (by simp)
        cases e
    subst hl
    exact run_convert_bytes_nil w 27 5 Try.underlying27 Try.underlying5 0 c 9 Try.underlying9
  · refine run_convert_bytes_back w 27 9 5 ad c l Try.underlying27 Try.underlying5 Try.underlying9 fun j hj => ?_
    refine h.news ad rfl (by omega) j _ ?_
    rw [bytesV_get l j hj]
    simp [List.getD, hj]
end Go.Proofs.Ytgbkpbmilaafgaa

/- Contracts: a reader that Open made. It proves no statement. -/





namespace Go.Proofs.Ytgbkpbmilaafgaa
open Go.RowKit
set_option linter.unusedVariables false
set_option linter.unusedSimpArgs false

/-- The row at A lies from block lo on, and no cell of it is frozen. -/
def Mine (w : World) (lo : Nat) (A : Option Addr) (n : Nat) : Prop := 0 < n → ∃ b o, A = some ⟨b, o, none⟩ ∧ lo ≤ b ∧ ∀ i, i < n → w.frozen? ⟨b, o + i, none⟩ = false

/-- A reader with the bytes l left, at A, and the error e. -/
structure Live (w : World) (lo B g : Nat) (A : Option Addr) (n c : Nat) (l : List UInt8) (e : Int) : Prop where
  blk : Blk w g 136 #[.slice A n c, .int .i64 e, .bool true]
  low : lo ≤ g
  high : g < B
  reads : Reads w B A n l
  mine : Mine w lo A n
  fit : n ≤ c
  cap : c ≤ 9223372036854775807
  nil : A = none → n = 0 ∧ c = 0

set_option maxHeartbeats 400000 in
theorem clone_any (A : Option Addr) (n c : Nat) (l : List UInt8) (w : World) (B : Nat) (h : Reads w B A n l) (hB : B ≤ w.heap.size) (hn : n ≤ 70368744177664) (hA : A = none → n = 0 ∧ c = 0) :
    Calls Try.prog 82 #[.slice A n c] w fun e w' => (∃ v, e = .returned v ∧ w'.ownsRow w.heap.size 5 1 v n (bytesV l)) ∧ Still w w' := by
  rcases A with _ | ad
  · obtain ⟨rfl, rfl⟩ := hA rfl
    have hl : l = [] := List.eq_nil_of_length_eq_zero h.1
    subst hl
    have hk : ∀ w : World, (binOp .eql 27 (.slice none 0 0) (.slice none 0 0)).run Try.prog w = .ok (.bool true) w := fun w => Lib.run_eql_slice_nil w _ _ none 0 0 0 0 Try.underlying27
    go_enter Try.func82, Try.ntmps82
    go_wp2
    go_ret
    exact ⟨⟨_, rfl, World.ownsRow_nil _ _ _ _⟩, Below.refl _ _⟩
  · have r1 : Reads (w.alloc (.cells #[] 5)) B (some ad) n l := h.keep fun p hp => World.cell?_alloc_lt w _ p (by omega)
    have o1 : (w.alloc (.cells #[] 5)).ownsRow w.heap.size 5 1 (.slice (some ⟨w.heap.size, 0, none⟩) 0 0) 0 (bytesV []) := World.ownsRow_made w #[] 0 (Nat.le_refl _) (by unfold maxLen; omega) rfl
    have s1 : Still w (w.alloc (.cells #[] 5)) := (Below.refl _ _).alloc (Nat.le_refl _) _
    have hk : ∀ w : World, (binOp .eql 27 (.slice (some ad) n c) (.slice none 0 0)).run Try.prog w = .ok (.bool false) w := fun w => Lib.run_eql_slice_nil w _ _ (some ad) n c 0 0 Try.underlying27
    go_enter Try.func82, Try.ntmps82
    go_wp2_with (at_builtin; go_must (refine wpList_adds _ rfl _ _ rfl w.heap.size _ 0 [] rfl o1 _ n c B l rfl r1 (fun e => by cases e) ?c1 ?c2 ?_))
    case c1 => omega
    case c2 => simp
    intro v' w' hown hg _
    have hst : Still w w' := s1.grown hg (by simp) (fun k hk => by simp [Value.ownBlock] at hk; omega)
    have hown' : w'.ownsRow w.heap.size 5 1 v' n (bytesV l) := by simpa using hown
    clear hg hown
    go_wp2_with fail
    go_ret
    exact ⟨⟨_, rfl, hown'⟩, hst⟩

set_option maxHeartbeats 400000 in
theorem open_any (A : Option Addr) (n c : Nat) (l : List UInt8) (w : World) (B : Nat) (h : Reads w B A n l) (hB : B ≤ w.heap.size) (hn : n ≤ 70368744177664) (hA : A = none → n = 0 ∧ c = 0) :
    Calls Try.prog 65 #[.slice A n c] w fun e w' => (∃ g A' c', e = .returned (.pointer (some ⟨g, 0, none⟩)) ∧ Live w' w.heap.size w'.heap.size g A' n c' l 0) ∧ Still w w' := by
  go_enter Try.func65, Try.ntmps65
  go_wp2_with fail
  refine (clone_any A n c l w B h hB hn hA).mono ?_
  rintro e w1 ⟨⟨v, rfl, hown⟩, s1⟩
  obtain ⟨A1, c1, rfl, f1, f2, f3⟩ := own_form hown
  have s2 : Still w (w1.alloc (.cells #[.slice A1 n c1, .int .i64 0, .bool true] 136)) := s1.alloc s1.size _
  have q1 := Reads.of_own hown
  have lv : Live (w1.alloc (.cells #[.slice A1 n c1, .int .i64 0, .bool true] 136)) w.heap.size (w1.heap.size + 1) w1.heap.size A1 n c1 l 0 := by
    refine ⟨Blk.new _ _ _, s1.size, by omega, (q1.keep fun p hp => World.cell?_alloc_lt w1 _ p hp).more (by omega), fun hn => ?_, f1, f2, f3⟩
    rcases hown.2 with ⟨_, h0⟩ | ⟨g, cap, cur, hv, hb, hg, _⟩
    · omega
    · have e : A1 = some ⟨g, 0, none⟩ := by injection hv
      refine ⟨g, 0, e, hb, fun i hi => ?_⟩
      have hlt : g < w1.heap.size := (Array.getElem?_eq_some_iff.1 hg).1
      have e2 := Below.heap_alloc w1 (.cells #[.slice A1 n c1, .int .i64 0, .bool true] 136) g hlt
      exact (World.frozen?_of_block (w := w1) e2).trans (frozen_of_row w1 g _ cur _ hg)
  clear q1 hown s1
  go_wp2_with fail
  go_ret
  exact ⟨⟨_, _, _, rfl, by simpa using lv⟩, s2⟩

theorem err_live {w : World} {lo B g : Nat} {A : Option Addr} {n c : Nat} {l : List UInt8} {x : Int} (h : Live w lo B g A n c l x) :
    Calls Try.prog 84 #[.pointer (some ⟨g, 0, none⟩)] w fun e w' => e = .returned (.int .i64 x) ∧ w = w' := by
  have c1 : w.cell? ⟨g, 1, none⟩ = some (.int .i64 x) := h.blk.cell 1
  have c2 : w.cell? ⟨g, 2, none⟩ = some (.bool true) := h.blk.cell 2
  go_enter Try.func84, Try.ntmps84
  go_wp2
  go_ret
  exact ⟨rfl, rfl⟩
/-- A byte's cell lies in no reader's block. -/
theorem byte_far {w : World} {g : Nat} {A : Option Addr} {n c : Nat} {x : Int} {m : Bool} (hb : Blk w g 136 #[.slice A n c, .int .i64 x, .bool m]) {b o : Nat} {y : Int}
    (hc : w.cell? ⟨b, o, none⟩ = some (.int .u8 y)) : b ≠ g := by
  rintro rfl
  rw [hb.cell] at hc
  match o, hc with
  | 0, hc => simp at hc
  | 1, hc => simp at hc
  | 2, hc => simp at hc
  | o + 3, hc => simp at hc
/-- A store into the reader's own block leaves the bytes. -/
theorem Reads.setR {w : World} {B g n c k : Nat} {A A0 : Option Addr} {n0 : Nat} {l : List UInt8} {x : Int} {m : Bool} (h : Reads w B A n l) (hb : Blk w g 136 #[.slice A0 n0 c, .int .i64 x, .bool m]) (u : Value) :
    Reads (w.setCell ⟨g, k, none⟩ u) B A n l := by
  refine ⟨h.1, fun hn => ?_⟩
  obtain ⟨b, o, e, hlt, hc⟩ := h.2 hn
  refine ⟨b, o, e, hlt, fun i hi => ?_⟩
  have hne := byte_far hb (hc i hi)
  exact (World.cell?_of_block (w := w) (Below.heap_setCell w ⟨g, k, none⟩ u b hne)).trans (hc i hi)
theorem Mine.setR {w : World} {lo B g n c k : Nat} {A A0 : Option Addr} {n0 : Nat} {l : List UInt8} {x : Int} {m : Bool} (hm : Mine w lo A n) (h : Reads w B A n l) (hb : Blk w g 136 #[.slice A0 n0 c, .int .i64 x, .bool m]) (u : Value) :
    Mine (w.setCell ⟨g, k, none⟩ u) lo A n := by
  intro hn
  obtain ⟨b, o, e, hlt, hc⟩ := h.2 hn
  obtain ⟨b', o', e', hlo, hf⟩ := hm hn
  rw [e] at e'
  simp only [Option.some.injEq, Addr.mk.injEq, and_true] at e'
  obtain ⟨rfl, rfl⟩ := e'
  refine ⟨b, o, e, hlo, fun i hi => ?_⟩
  have hne := byte_far hb (hc i hi)
  exact (World.frozen?_of_block (w := w) (Below.heap_setCell w ⟨g, k, none⟩ u b hne)).trans (hf i hi)

theorem fail_none {w : World} {lo B g : Nat} {A : Option Addr} {n c : Nat} {l : List UInt8} {x : Int} (h : Live w lo B g A n c l x) (hx : x ≠ 0) (y : Int) :
    Calls Try.prog 86 #[.pointer (some ⟨g, 0, none⟩), .int .i64 y] w fun e w' => e = .returned (.tuple #[]) ∧ w = w' := by
  have hb : (x == 0) = false := by simpa using hx
  go_enter Try.func86, Try.ntmps86
  go_wp2_with fail
  refine (err_live h).mono ?_
  rintro e w1 ⟨rfl, rfl⟩
  go_wp2_with fail
  go_end0
  exact ⟨rfl, rfl⟩
theorem fail_sets {w : World} {lo B g : Nat} {A : Option Addr} {n c : Nat} {l : List UInt8} (h : Live w lo B g A n c l 0) (y : Int) :
    Calls Try.prog 86 #[.pointer (some ⟨g, 0, none⟩), .int .i64 y] w fun e w' => e = .returned (.tuple #[]) ∧ Live w' lo B g A n c l y ∧ w.grownBy w' (some g) := by
  have c1 : w.cell? ⟨g, 1, none⟩ = some (.int .i64 0) := h.blk.cell 1
  have f1 := h.blk.frozen 1
  have lv : Live (w.setCell ⟨g, 1, none⟩ (.int .i64 y)) lo B g A n c l y := ⟨h.blk.setc 1 _, h.low, h.high, h.reads.setR h.blk _, h.mine.setR h.reads h.blk _, h.fit, h.cap, h.nil⟩
  have gr : w.grownBy (w.setCell ⟨g, 1, none⟩ (.int .i64 y)) (some g) := ⟨rfl, rfl, rfl, by simp [World.setCell], fun k _ hk => Below.heap_setCell _ _ _ _ (fun e => hk (by rw [e]))⟩
  go_enter Try.func86, Try.ntmps86
  go_wp2_with fail
  refine (err_live h).mono ?_
  rintro e w1 ⟨rfl, rfl⟩
  go_wp2_with fail
  go_end0
  exact ⟨rfl, lv, gr⟩

theorem take_none {w : World} {lo B g : Nat} {A : Option Addr} {n c : Nat} {l : List UInt8} {x : Int} (h : Live w lo B g A n c l x) (hx : x ≠ 0) (y : Int) :
    Calls Try.prog 88 #[.pointer (some ⟨g, 0, none⟩), .int .i64 y] w fun e w' => e = .returned (.slice none 0 0) ∧ w = w' := by
  have hb : (x != 0) = true := by simpa using hx
  go_enter Try.func88, Try.ntmps88
  go_wp2_with fail
  refine (err_live h).mono ?_
  rintro e w1 ⟨rfl, rfl⟩
  go_wp2_with fail
  go_ret
  exact ⟨rfl, rfl⟩
theorem take_neg {w : World} {lo B g : Nat} {A : Option Addr} {n c : Nat} {l : List UInt8} (h : Live w lo B g A n c l 0) (y : Int) (hy : y < 0) :
    Calls Try.prog 88 #[.pointer (some ⟨g, 0, none⟩), .int .i64 y] w fun e w' => e = .returned (.slice none 0 0) ∧ Live w' lo B g A n c l 2 ∧ w.grownBy w' (some g) := by
  go_enter Try.func88, Try.ntmps88
  go_wp2_with fail
  refine (err_live h).mono ?_
  rintro e w1 ⟨rfl, rfl⟩
  go_wp2_with fail
  refine (fail_sets h 2).mono ?_
  rintro e w1 ⟨rfl, lv, gr⟩
  go_wp2_with fail
  go_ret
  exact ⟨rfl, lv, gr⟩
theorem take_short {w : World} {lo B g : Nat} {A : Option Addr} {n c : Nat} {l : List UInt8} (h : Live w lo B g A n c l 0) (y : Int) (hy0 : 0 ≤ y) (hy : (n : Int) < y) :
    Calls Try.prog 88 #[.pointer (some ⟨g, 0, none⟩), .int .i64 y] w fun e w' => e = .returned (.slice none 0 0) ∧ Live w' lo B g A n c l 3 ∧ w.grownBy w' (some g) := by
  have c0 : w.cell? ⟨g, 0, none⟩ = some (.slice A n c) := h.blk.cell 0
  go_enter Try.func88, Try.ntmps88
  go_wp2_with fail
  refine (err_live h).mono ?_
  rintro e w1 ⟨rfl, rfl⟩
  go_wp2_with fail
  refine (fail_sets h 3).mono ?_
  rintro e w1 ⟨rfl, lv, gr⟩
  clear c0
  go_wp2_with fail
  go_ret
  exact ⟨rfl, lv, gr⟩
theorem Mine.dropk {w : World} {lo n k : Nat} {A : Option Addr} (h : Mine w lo A n) (hk : k ≤ n) : Mine w lo (A.map (·.add k)) (n - k) := by
  intro hn
  obtain ⟨b, o, rfl, hb, hc⟩ := h (by omega)
  refine ⟨b, o + k, by simp [Addr.add_lit], hb, fun i hi => ?_⟩
  have := hc (k + i) (by omega)
  rw [Nat.add_assoc, this]
theorem Mine.takek {w : World} {lo n k : Nat} {A : Option Addr} (h : Mine w lo A n) (hk : k ≤ n) : Mine w lo A k := by
  intro hn
  obtain ⟨b, o, e, hb, hc⟩ := h (by omega)
  exact ⟨b, o, e, hb, fun i hi => hc i (by omega)⟩

theorem take_ok {w : World} {lo B g : Nat} {A : Option Addr} {n c k : Nat} {l : List UInt8} (h : Live w lo B g A n c l 0) (hk : k ≤ n) :
    Calls Try.prog 88 #[.pointer (some ⟨g, 0, none⟩), .int .i64 k] w fun e w' => e = .returned (.slice A k k) ∧
      (∃ A' c', Live w' lo B g A' (n - k) c' (l.drop k) 0 ∧ (0 < n - k → A' = A.map (·.add k))) ∧ Reads w' B A k (l.take k) ∧ Mine w' lo A k ∧ (A = none → k = 0) ∧ w.grownBy w' (some g) := by
  have c0 : w.cell? ⟨g, 0, none⟩ = some (.slice A n c) := h.blk.cell 0
  have f0 := h.blk.frozen 0
  have hf := h.fit
  have hc := h.cap
  have gr : ∀ u, w.grownBy (w.setCell ⟨g, 0, none⟩ u) (some g) := fun u => ⟨rfl, rfl, rfl, by simp [World.setCell], fun k _ hk => Below.heap_setCell _ _ _ _ (fun e => hk (by rw [e]))⟩
  have rd : ∀ u, Reads (w.setCell ⟨g, 0, none⟩ u) B A k (l.take k) := fun u => (h.reads.takek hk).setR h.blk u
  have mi : ∀ u, Mine (w.setCell ⟨g, 0, none⟩ u) lo A k := fun u => (h.mine.takek hk).setR (h.reads.takek hk) h.blk u
  have nn : A = none → k = 0 := fun e => by have := (h.nil e).1; omega
  by_cases hck : c = k
  · have hnk : n = k := by omega
    subst hnk
    subst hck
    have lv : Live (w.setCell ⟨g, 0, none⟩ (.slice A (c - c) 0)) lo B g A (c - c) 0 (l.drop c) 0 := by
      have hd : l.drop c = [] := by rw [List.drop_of_length_le]; have := h.reads.1; omega
      rw [hd, Nat.sub_self]
      exact ⟨h.blk.setc 0 _, h.low, h.high, ⟨rfl, fun hn => by omega⟩, fun hn => by omega, Nat.le_refl _, by omega, fun _ => ⟨rfl, rfl⟩⟩
    have G := Lib.hid gr
    have R := Lib.hid rd
    have M := Lib.hid mi
    clear gr rd mi hk hf
    go_enter Try.func88, Try.ntmps88
    go_wp2_with fail
    refine (err_live h).mono ?_
    rintro e w1 ⟨rfl, rfl⟩
    go_wp2_with fail
    go_ret
    refine ⟨rfl, ⟨A, 0, ?_, fun hn => by omega⟩, R.out _, M.out _, nn, G.out _⟩
    simpa using lv
  · have lv : Live (w.setCell ⟨g, 0, none⟩ (.slice (A.map (·.add k)) (n - k) (c - k))) lo B g (A.map (·.add k)) (n - k) (c - k) (l.drop k) 0 :=
      ⟨h.blk.setc 0 _, h.low, h.high, (h.reads.dropk hk).setR h.blk _, (h.mine.dropk hk).setR (h.reads.dropk hk) h.blk _, by omega, by omega, fun e => by
        have e2 : A = none := by simpa using e
        have := h.nil e2
        omega⟩
    have G := Lib.hid gr
    have R := Lib.hid rd
    have M := Lib.hid mi
    clear gr rd mi
    go_enter Try.func88, Try.ntmps88
    go_wp2_with fail
    refine (err_live h).mono ?_
    rintro e w1 ⟨rfl, rfl⟩
    go_wp2_with fail
    go_ret
    exact ⟨rfl, ⟨_, _, lv, fun _ => rfl⟩, R.out _, M.out _, nn, G.out _⟩
end Go.Proofs.Ytgbkpbmilaafgaa
