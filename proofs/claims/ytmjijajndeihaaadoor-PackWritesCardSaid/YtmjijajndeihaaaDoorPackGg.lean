/- Contracts and facts, several texts in one. It proves no statement. -/
import Derived.Test.YtmjijajndeihaaaDoorPackGb
import Derived.BigQuiet
import Derived.BigFrame
import Derived.Test.YtmjijajndeihaaaDoorPackGc
import Derived.Test.YtmjijajndeihaaaDoorPackGa
import Derived.Test.YtmjijajndeihaaaDoorPackGd
import Derived.Test.YtmjijajndeihaaaDoorPackGe

/- A load of a whole row, where the operation's guard holds. It proves no statement. -/

namespace Go.Proofs.YtmjijajndeihaaaDoor
open Go.RowKit
set_option linter.unusedVariables false

/-- A load of a whole row, where the operation's guard holds. -/
theorem load_rowG {P : Program} {ops : Array Oper} {rest : List Oper} {o : Oper} {a : Act} {w : World} {Q : Exit → Act → World → Prop} (hw : Region.wanted o (yielded ops a.tmps) = true) (ty : TypeId) (x : Operand) (ho : o.op = .load ty x)
    (g : Nat) (hx : a.eval x = .pointer (some ⟨g, 0, none⟩)) (t : TypeId) (cs : Array Value) (fr : Nat × Nat) (d : TypeDesc) (hg : w.heap[g]? = some (.cells cs t fr))
    (hu : P.underlying ty = some d) (hd : (match d with | .struct _ | .array _ _ => true | _ => false) = true) (hi : (P.info? ty).map (·.size) = some cs.size)
    (h : wpList P ops Q rest (a.put o.dst (.agg cs)) w) : wpList P ops Q (o :: rest) a w := by
  unfold wpList
  rw [if_pos hw]
  exact .inl (wp_load_row ty x ho g hx t cs fr d hg hu hd hi h)
end Go.Proofs.YtmjijajndeihaaaDoor

/- The document's own: whether a value can be. It proves no statement. -/



namespace Go.Proofs.YtmjijajndeihaaaDoor
open Go.RowKit
set_option linter.unusedVariables false
set_option linter.unusedSimpArgs false

theorem less_tri : ∀ (x y : List UInt8), (Op.bytesLess y x || (y == x)) = !Op.bytesLess x y
  | [], [] => by decide
  | [], b :: y => by simp [Op.bytesLess]
  | a :: x, [] => by simp [Op.bytesLess]
  | a :: x, b :: y => by
    have ih := less_tri x y
    simp only [Op.bytesLess]
    rcases Nat.lt_trichotomy a.toNat b.toNat with h | h | h
    · have h1 : a < b := h
      have h2 : ¬ b < a := fun q => by have : b.toNat < a.toNat := q; omega
      have h3 : ¬ a = b := fun q => by rw [q] at h; omega
      have h4 : ¬ b = a := fun q => h3 q.symm
      simp [h1, h2, h3, h4]
    · obtain rfl : a = b := UInt8.toNat_inj.1 h
      have h2 : ¬ a < a := fun q => by have : a.toNat < a.toNat := q; omega
      simpa [h2] using ih
    · have h1 : b < a := h
      have h2 : ¬ a < b := fun q => by have : a.toNat < b.toNat := q; omega
      have h3 : ¬ a = b := fun q => by rw [q] at h; omega
      have h4 : ¬ b = a := fun q => h3 q.symm
      simp [h1, h2, h3, h4]

set_option maxRecDepth 100000 in
set_option maxHeartbeats 1600000 in
theorem rrises_any (A : Option Addr) (c : Nat) (ks : List ByteArray) (w : World) (B : Nat) (h : Keys w B A ks) (hn : ks.length ≤ 1048576) (hBw : B ≤ w.heap.size) :
    Calls Tryd.prog 36 #[.slice A ks.length c] w fun e w' => e = .returned (.bool (riseB ks)) ∧ Still w w' := by
  obtain ⟨m, hm⟩ : ∃ m, m = ks.length := ⟨_, rfl⟩
  have hiff := riseB_iff ks
  have hat := h.2
  rw [← hm] at hn hiff hat ⊢
  obtain ⟨rb, hrb⟩ : ∃ rb, rb = riseB ks := ⟨_, rfl⟩
  rw [← hrb] at hiff ⊢
  have HIFF := Lib.hid hiff
  have HAT := Lib.hid hat
  have d3 : (m : Int) ≤ 1048576 := by omega
  clear hiff hat hm hrb h hn
  go_enter Tryd.func36, Tryd.ntmps36
  go_wp2_with fail
  go_loopw [3] (fun iv wr => ∃ j : Nat, 1 ≤ j ∧ iv = .int .i64 j ∧ Hid ((∀ i, i + 1 < j → i + 1 < m → Op.bytesLess (ks.getD i ByteArray.empty).toList (ks.getD (i + 1) ByteArray.empty).toList = true) ∧ Still w wr)) (fun iv _ => m - (intOf iv).toNat)
  case atStart => exact ⟨1, by omega, rfl, fun i hi => by omega, Still.refl _⟩
  case round =>
    obtain ⟨j, hj, rfl, hin⟩ := hrel
    by_cases hlt : j < m
    · obtain ⟨g, o, rfl, hgB, hc⟩ := HAT.out (by omega)
      have hwn := hin.out.2
      have hgw : g < w.heap.size := by omega
      have c0 : wr.cell? ⟨g, o + (j - 1), none⟩ = some (.string (ks.getD (j - 1) ByteArray.empty)) := (hwn.cell (p := ⟨g, o + (j - 1), none⟩) hgw).trans (hc (j - 1) (by omega))
      have c1 : wr.cell? ⟨g, o + j, none⟩ = some (.string (ks.getD j ByteArray.empty)) := (hwn.cell (p := ⟨g, o + j, none⟩) hgw).trans (hc j hlt)
      obtain ⟨i0, hi0⟩ : ∃ i0, i0 = j - 1 := ⟨_, rfl⟩
      rw [← hi0] at c0
      have e0 : (j : Int) - 1 = (i0 : Int) := by omega
      have e1 : IntKind.i64.wrap ((j : Int) - 1) = (i0 : Int) := by rw [IntKind.wrap_i64]; omega
      have e2 : IntKind.i64.wrap (i0 : Int) = (i0 : Int) := by rw [IntKind.wrap_i64]; omega
      have d1 : (j : Int) < (m : Int) := by omega
      have d2 : (0 : Int) ≤ (j : Int) := by omega
      have d4 : (0 : Int) ≤ (i0 : Int) := by omega
      have d5 : (i0 : Int) < (m : Int) := by omega
      obtain ⟨a, ha⟩ : ∃ a, a = ks.getD i0 ByteArray.empty := ⟨_, rfl⟩
      obtain ⟨b, hb⟩ : ∃ b, b = ks.getD j ByteArray.empty := ⟨_, rfl⟩
      rw [← ha] at c0
      rw [← hb] at c1
      have HA := Lib.hid ha
      have HB := Lib.hid hb
      have HI0 := Lib.hid hi0
      have HWN := Lib.hid hwn
      have HLT := Lib.hid hlt
      have HJ := Lib.hid hj
      clear ha hb hi0 hwn hlt hc hj hgB hgw
      obtain ⟨q, hq⟩ : ∃ q, q = Op.bytesLess a.toList b.toList := ⟨_, rfl⟩
      have hq' := hq.symm
      have HQ := Lib.hid hq
      clear hq
      have tri := less_tri a.toList b.toList
      rw [← HQ.out] at tri
      obtain ⟨L, hL⟩ : ∃ L, L = Op.bytesLess b.toList a.toList := ⟨_, rfl⟩
      obtain ⟨E, hE⟩ : ∃ E, E = (b.toList == a.toList) := ⟨_, rfl⟩
      rw [← hL, ← hE] at tri
      have hL' := hL.symm
      have hE' := hE.symm
      clear hL hE
      cases q
      · rcases (show (L = true ∧ E = true) ∨ (L = true ∧ E = false) ∨ (L = false ∧ E = true) by cases L <;> cases E <;> simp_all) with ⟨rfl, rfl⟩ | ⟨rfl, rfl⟩ | ⟨rfl, rfl⟩
        all_goals
          clear tri
          go_wp2_with fail
          go_quiet (fail)
          go_wp2_with fail
          (try simp only [Exit.inBlock, Exit.then])
          have hr : rb = false := by
            rw [Bool.eq_false_iff]
            intro h
            have h2 := HIFF.out.1 h i0 (by have := HI0.out; have := HJ.out; have := HLT.out; omega)
            rw [← HA.out, show i0 + 1 = j by have := HI0.out; have := HJ.out; omega, ← HB.out, hq'] at h2
            cases h2
          rw [hr]
          go_ret
          exact ⟨rfl, still_drewN HWN.out _⟩
      · obtain ⟨rfl, rfl⟩ : L = false ∧ E = false := by cases L <;> cases E <;> simp_all
        skip
        clear tri
        go_wp2_with fail
        go_quiet (fail)
        go_wp2_with fail
        go_roundw
        case rel =>
          refine ⟨j + 1, by omega, by go_num, Lib.hid ⟨fun i h1 h2 => ?_, still_drewN HWN.out _⟩⟩
          by_cases hi : i = i0
          · rw [hi, ← HA.out, show i0 + 1 = j by have := HI0.out; have := HJ.out; omega, ← HB.out]; exact hq'
          · exact hin.out.1 i (by have := HI0.out; omega) h2
        case measure => simp [intOf]; have := HLT.out; omega
    · have hr : rb = true := HIFF.out.2 fun i hi => hin.out.1 i (by omega) hi
      have d1 : ¬ (j : Int) < (m : Int) := by omega
      have HR := Lib.hid hr
      clear hr hlt
      have HWN := Lib.hid hin.out.2
      go_wp2_with fail
      go_ret
      rw [HR.out]
      exact ⟨rfl, HWN.out⟩

/-- What is said of the document's own 'Can' at a depth. -/
def RCanOK (d : Nat) : Prop := ∀ (x : Tr) (w : World) (B : Nat) (cs : Array Value), HasV w B x cs → B ≤ w.heap.size →
  Calls Tryd.prog 19 #[.agg cs, .int .i64 (d : Int)] w fun e w' => e = .returned (.bool (canT d x)) ∧ Still w w'

set_option maxRecDepth 100000 in
set_option maxHeartbeats 3200000 in
theorem rcan_list (d : Nat) (hd : d ≤ 16) (OK : RCanOK (d + 1)) (i : Int) (v2 v3 : Value) (Ak : Option Addr) (ks : List ByteArray) (ck : Nat) (Al : Option Addr) (l : List Tr) (cl : Nat) (w : World) (B : Nat) (hB : B ≤ w.heap.size) (hl : l.length ≤ 1048576) (hks : Keys w B Ak ks) (hkl : ks.length ≤ 1048576) (h : 0 < l.length → ∃ g o, Al = some ⟨g, o, none⟩ ∧ g < B ∧ HasL w B g o l) :
    Calls Tryd.prog 19 #[.agg #[.int .i64 6, .int .i64 i, v2, v3, .slice Ak ks.length ck, .slice Al l.length cl], .int .i64 (d : Int)] w fun e w' => e = .returned (.bool (canL (d + 1) l)) ∧ Still w w' := by
  obtain ⟨wA, hA⟩ : ∃ wA, wA = w.alloc (.cells #[.int .i64 6, .int .i64 i, v2, v3, .slice Ak ks.length ck, .slice Al l.length cl] 26) := ⟨_, rfl⟩
  have sA : Still w wA := by rw [hA]; exact (Still.refl w).alloc (Nat.le_refl _) _
  have bA : Blk wA w.heap.size 26 #[.int .i64 6, .int .i64 i, v2, v3, .slice Ak ks.length ck, .slice Al l.length cl] := by rw [hA]; exact Blk.new _ _ _
  obtain ⟨m, hm⟩ : ∃ m, m = l.length := ⟨_, rfl⟩
  rw [← hm] at hl h hA bA ⊢
  obtain ⟨fs, hu⟩ := underValue
  have HU := Lib.hid hu
  have HH := Lib.hid h
  have HM := Lib.hid hm
  have HBW := Lib.hid hB
  have SA := Lib.hid sA
  have BA := Lib.hid bA
  have HA := Lib.hid hA
  have d0 : ¬ 16 < (d : Int) := by omega
  have e2 : IntKind.i64.wrap ((d : Int) + 1) = (d : Int) + 1 := by rw [IntKind.wrap_i64]; omega
  have d3 : (m : Int) ≤ 1048576 := by omega
  have k0 : wA.cell? ⟨w.heap.size, 0, none⟩ = some (.int .i64 6) := bA.cell 0
  have k4 : wA.cell? ⟨w.heap.size, 4, none⟩ = some (.slice Ak ks.length ck) := bA.cell 4
  have k5 : wA.cell? ⟨w.heap.size, 5, none⟩ = some (.slice Al m cl) := bA.cell 5
  clear sA hA bA hm hl h hB hu hd hks hkl
  go_enter Tryd.func19, Tryd.ntmps19
  go_upto_region 1 with fail
  rw [show (w.alloc (.cells #[.int .i64 6, .int .i64 i, v2, v3, .slice Ak ks.length ck, .slice Al m cl] 26)) = wA from HA.out.symm]
  skip
  go_wp2_with fail
  go_loopw [5] (fun iv wr => ∃ j : Nat, j ≤ m ∧ iv = .int .i64 j ∧ Hid (Still w wr ∧ Blk wr w.heap.size 26 #[.int .i64 6, .int .i64 i, v2, v3, .slice Ak ks.length ck, .slice Al m cl] ∧ canL (d + 1) l = canL (d + 1) (l.drop j))) (fun iv _ => m - (intOf iv).toNat)
  case atStart => exact ⟨0, by omega, rfl, SA.out, BA.out, rfl⟩
  case round =>
    obtain ⟨j, hj, rfl, hin⟩ := hrel
    have k0 : wr.cell? ⟨w.heap.size, 0, none⟩ = some (.int .i64 6) := hin.out.2.1.cell 0
    have k5 : wr.cell? ⟨w.heap.size, 5, none⟩ = some (.slice Al m cl) := hin.out.2.1.cell 5
    by_cases hlt : j < m
    · obtain ⟨gl, ol, rfl, hgl, hh⟩ := HH.out (by omega)
      obtain ⟨x, hx⟩ : ∃ x, l[j]? = some x := ⟨_, List.getElem?_eq_getElem (by rw [← HM.out]; exact hlt)⟩
      have bel : Below B w wr := Below.mono hin.out.1 HBW.out
      obtain ⟨⟨lx⟩, hvx, hzx, hcx⟩ := HasL.at l ol (HasL.below bel gl hgl ol l hh) j x hx
      have d1 : (j : Int) < (m : Int) := by omega
      have d2 : (0 : Int) ≤ (j : Int) := by omega
      have C := OK x wr B lx.toArray hvx (Nat.le_trans HBW.out hin.out.1.size)
      have e1 : ((d + 1 : Nat) : Int) = (d : Int) + 1 := by omega
      rw [e1] at C
      have hsx : canL (d + 1) (l.drop j) = (canT (d + 1) x && canL (d + 1) (l.drop (j + 1))) := by
        rw [drop_at l j x hx, canL]
      have RNG := Lib.hid (show wr.rangeAt gl (ol + j * 6) lx from fun q v hq => by
        have := hcx q v (by simpa using hq)
        rwa [show ol + 6 * j + q = ol + j * 6 + q by omega] at this)
      have LX := Lib.hid (show lx.length = 6 by simpa using hzx)
      have HSX := Lib.hid hsx
      have HLT := Lib.hid hlt
      have CC := Lib.hid C
      obtain ⟨q, hq⟩ : ∃ q, q = canT (d + 1) x := ⟨_, rfl⟩
      have CC' : Hid (Calls Tryd.prog 19 #[.agg lx.toArray, .int .i64 ((d : Int) + 1)] wr fun e w' => e = .returned (.bool q) ∧ Still wr w') := by rw [hq]; exact CC
      rw [← hq] at HSX
      clear hlt hx hh hgl hvx hzx hcx bel hsx hq C CC e1
      cases q
      · go_wp2_with (first
          | (guard_target =~ wpList _ _ _ (Oper.mk (some 52) _ _ _ _ _ :: _) _ _; go_must (refine wpList_load_mid rfl 26 (.tmp 51) rfl gl (ol + j * 6) rfl lx (.struct fs) RNG.out HU.out rfl (by rw [sizeValue, LX.out]) ?_)))
        refine CC'.out.mono ?_
        rintro e w1 ⟨rfl, s1⟩
        have S1 := Lib.hid (Still.trans hin.out.1 s1)
        have Q := Lib.hid (show canL (d + 1) l = false by rw [hin.out.2.2, HSX.out]; simp)
        clear s1 CC'
        go_wp2_with fail
        (try simp only [Exit.inBlock, Exit.then])
        go_ret
        rw [Q.out]
        exact ⟨rfl, S1.out⟩
      · go_wp2_with (first
          | (guard_target =~ wpList _ _ _ (Oper.mk (some 52) _ _ _ _ _ :: _) _ _; go_must (refine wpList_load_mid rfl 26 (.tmp 51) rfl gl (ol + j * 6) rfl lx (.struct fs) RNG.out HU.out rfl (by rw [sizeValue, LX.out]) ?_)))
        refine CC'.out.mono ?_
        rintro e w1 ⟨rfl, s1⟩
        have S1 := Lib.hid (Still.trans hin.out.1 s1)
        have BX1 := Lib.hid (hin.out.2.1.still s1)
        clear s1 CC'
        go_wp2_with fail
        go_roundw
        case rel => exact ⟨j + 1, by have := HLT.out; omega, by go_num, S1.out, BX1.out, by rw [hin.out.2.2, HSX.out]; simp⟩
        case measure => simp [intOf]; have := HLT.out; omega
    · obtain rfl : j = m := by omega
      have hend : canL (d + 1) l = true := by
        rw [hin.out.2.2, List.drop_of_length_le (by rw [HM.out]; omega)]
        unfold canL
        rfl
      have HE := Lib.hid hend
      have d1 : ¬ (j : Int) < (j : Int) := by omega
      clear hend hlt
      go_wp2_with fail
      go_ret
      rw [HE.out]
      exact ⟨rfl, hin.out.1⟩

set_option maxRecDepth 100000 in
set_option maxHeartbeats 3200000 in
theorem rcan_map (d : Nat) (hd : d ≤ 16) (OK : RCanOK (d + 1)) (i : Int) (v2 v3 : Value) (Ak : Option Addr) (ks : List ByteArray) (ck : Nat) (Al : Option Addr) (l : List Tr) (cl : Nat) (w : World) (B : Nat) (hB : B ≤ w.heap.size) (hl : l.length ≤ 1048576) (hks : Keys w B Ak ks) (hkl : ks.length ≤ 1048576) (h : 0 < l.length → ∃ g o, Al = some ⟨g, o, none⟩ ∧ g < B ∧ HasL w B g o l) :
    Calls Tryd.prog 19 #[.agg #[.int .i64 7, .int .i64 i, v2, v3, .slice Ak ks.length ck, .slice Al l.length cl], .int .i64 (d : Int)] w fun e w' => e = .returned (.bool ((ks.length == l.length && riseB ks) && canL (d + 1) l)) ∧ Still w w' := by
  obtain ⟨wA, hA⟩ : ∃ wA, wA = w.alloc (.cells #[.int .i64 7, .int .i64 i, v2, v3, .slice Ak ks.length ck, .slice Al l.length cl] 26) := ⟨_, rfl⟩
  have sA : Still w wA := by rw [hA]; exact (Still.refl w).alloc (Nat.le_refl _) _
  have bA : Blk wA w.heap.size 26 #[.int .i64 7, .int .i64 i, v2, v3, .slice Ak ks.length ck, .slice Al l.length cl] := by rw [hA]; exact Blk.new _ _ _
  have RS := Lib.hid (rrises_any Ak ck ks wA B (hks.below (Below.mono sA hB)) hkl (Nat.le_trans hB sA.size))
  obtain ⟨m, hm⟩ : ∃ m, m = l.length := ⟨_, rfl⟩
  rw [← hm] at hl h hA bA ⊢
  obtain ⟨fs, hu⟩ := underValue
  have HU := Lib.hid hu
  have HH := Lib.hid h
  have HM := Lib.hid hm
  have HBW := Lib.hid hB
  have SA := Lib.hid sA
  have BA := Lib.hid bA
  have HA := Lib.hid hA
  have d0 : ¬ 16 < (d : Int) := by omega
  have e2 : IntKind.i64.wrap ((d : Int) + 1) = (d : Int) + 1 := by rw [IntKind.wrap_i64]; omega
  have d3 : (m : Int) ≤ 1048576 := by omega
  have k0 : wA.cell? ⟨w.heap.size, 0, none⟩ = some (.int .i64 7) := bA.cell 0
  have k4 : wA.cell? ⟨w.heap.size, 4, none⟩ = some (.slice Ak ks.length ck) := bA.cell 4
  have k5 : wA.cell? ⟨w.heap.size, 5, none⟩ = some (.slice Al m cl) := bA.cell 5
  obtain ⟨rb, hrb⟩ : ∃ rb, rb = riseB ks := ⟨_, rfl⟩
  rw [← hrb] at RS ⊢
  obtain ⟨nk, hnk⟩ : ∃ nk, nk = ks.length := ⟨_, rfl⟩
  have HNK := Lib.hid hnk
  by_cases hne : ks.length = m
  · have d7 : ((ks.length : Int) != (m : Int)) = false := by simp; omega
    have e0 : (ks.length == m) = true := by simpa using hne
    rw [e0]
    clear sA hA bA hm hl h hB hu hd hks hkl hrb hnk hne e0
    cases rb
    · go_enter Tryd.func19, Tryd.ntmps19
      go_upto_region 1 with fail
      rw [show (w.alloc (.cells #[.int .i64 7, .int .i64 i, v2, v3, .slice Ak ks.length ck, .slice Al m cl] 26)) = wA from HA.out.symm]
      go_wp2_with fail
      refine RS.out.mono ?_
      rintro e w1 ⟨rfl, s1⟩
      have S1 := Lib.hid (SA.out.trans s1)
      clear s1
      go_wp2_with fail
      (try simp only [Exit.inBlock, Exit.then])
      go_ret
      exact ⟨by simp, S1.out⟩
    · have HT := Lib.hid (show ((true && true) && canL (d + 1) l) = canL (d + 1) l by simp)
      rw [HT.out]
      go_enter Tryd.func19, Tryd.ntmps19
      go_upto_region 1 with fail
      rw [show (w.alloc (.cells #[.int .i64 7, .int .i64 i, v2, v3, .slice Ak ks.length ck, .slice Al m cl] 26)) = wA from HA.out.symm]
      go_wp2_with fail
      refine RS.out.mono ?_
      rintro e w1 ⟨rfl, s1⟩
      have S1 := Lib.hid (SA.out.trans s1)
      have BX := Lib.hid (BA.out.still s1)
      clear s1 RS k0 k4 k5
      go_wp2_with fail
      go_loopw [5] (fun iv wr => ∃ j : Nat, j ≤ m ∧ iv = .int .i64 j ∧ Hid (Still w wr ∧ Blk wr w.heap.size 26 #[.int .i64 7, .int .i64 i, v2, v3, .slice Ak ks.length ck, .slice Al m cl] ∧ canL (d + 1) l = canL (d + 1) (l.drop j))) (fun iv _ => m - (intOf iv).toNat)
      case atStart => exact ⟨0, by omega, rfl, S1.out, BX.out, rfl⟩
      case round =>
        obtain ⟨j, hj, rfl, hin⟩ := hrel
        have k0 : wr.cell? ⟨w.heap.size, 0, none⟩ = some (.int .i64 7) := hin.out.2.1.cell 0
        have k5 : wr.cell? ⟨w.heap.size, 5, none⟩ = some (.slice Al m cl) := hin.out.2.1.cell 5
        by_cases hlt : j < m
        · obtain ⟨gl, ol, rfl, hgl, hh⟩ := HH.out (by omega)
          obtain ⟨x, hx⟩ : ∃ x, l[j]? = some x := ⟨_, List.getElem?_eq_getElem (by rw [← HM.out]; exact hlt)⟩
          have bel : Below B w wr := Below.mono hin.out.1 HBW.out
          obtain ⟨⟨lx⟩, hvx, hzx, hcx⟩ := HasL.at l ol (HasL.below bel gl hgl ol l hh) j x hx
          have d1 : (j : Int) < (m : Int) := by omega
          have d2 : (0 : Int) ≤ (j : Int) := by omega
          have C := OK x wr B lx.toArray hvx (Nat.le_trans HBW.out hin.out.1.size)
          have e1 : ((d + 1 : Nat) : Int) = (d : Int) + 1 := by omega
          rw [e1] at C
          have hsx : canL (d + 1) (l.drop j) = (canT (d + 1) x && canL (d + 1) (l.drop (j + 1))) := by
            rw [drop_at l j x hx, canL]
          have RNG := Lib.hid (show wr.rangeAt gl (ol + j * 6) lx from fun q v hq => by
            have := hcx q v (by simpa using hq)
            rwa [show ol + 6 * j + q = ol + j * 6 + q by omega] at this)
          have LX := Lib.hid (show lx.length = 6 by simpa using hzx)
          have HSX := Lib.hid hsx
          have HLT := Lib.hid hlt
          have CC := Lib.hid C
          obtain ⟨q, hq⟩ : ∃ q, q = canT (d + 1) x := ⟨_, rfl⟩
          have CC' : Hid (Calls Tryd.prog 19 #[.agg lx.toArray, .int .i64 ((d : Int) + 1)] wr fun e w' => e = .returned (.bool q) ∧ Still wr w') := by rw [hq]; exact CC
          rw [← hq] at HSX
          clear hlt hx hh hgl hvx hzx hcx bel hsx hq C CC e1
          cases q
          · go_wp2_with (first
              | (guard_target =~ wpList _ _ _ (Oper.mk (some 52) _ _ _ _ _ :: _) _ _; go_must (refine wpList_load_mid rfl 26 (.tmp 51) rfl gl (ol + j * 6) rfl lx (.struct fs) RNG.out HU.out rfl (by rw [sizeValue, LX.out]) ?_)))
            refine CC'.out.mono ?_
            rintro e w1 ⟨rfl, s1⟩
            have S1 := Lib.hid (Still.trans hin.out.1 s1)
            have Q := Lib.hid (show canL (d + 1) l = false by rw [hin.out.2.2, HSX.out]; simp)
            clear s1 CC'
            go_wp2_with fail
            (try simp only [Exit.inBlock, Exit.then])
            go_ret
            rw [Q.out]
            exact ⟨rfl, S1.out⟩
          · go_wp2_with (first
              | (guard_target =~ wpList _ _ _ (Oper.mk (some 52) _ _ _ _ _ :: _) _ _; go_must (refine wpList_load_mid rfl 26 (.tmp 51) rfl gl (ol + j * 6) rfl lx (.struct fs) RNG.out HU.out rfl (by rw [sizeValue, LX.out]) ?_)))
            refine CC'.out.mono ?_
            rintro e w1 ⟨rfl, s1⟩
            have S1 := Lib.hid (Still.trans hin.out.1 s1)
            have BX1 := Lib.hid (hin.out.2.1.still s1)
            clear s1 CC'
            go_wp2_with fail
            go_roundw
            case rel => exact ⟨j + 1, by have := HLT.out; omega, by go_num, S1.out, BX1.out, by rw [hin.out.2.2, HSX.out]; simp⟩
            case measure => simp [intOf]; have := HLT.out; omega
        · obtain rfl : j = m := by omega
          have hend : canL (d + 1) l = true := by
            rw [hin.out.2.2, List.drop_of_length_le (by rw [HM.out]; omega)]
            unfold canL
            rfl
          have HE := Lib.hid hend
          have d1 : ¬ (j : Int) < (j : Int) := by omega
          clear hend hlt
          go_wp2_with fail
          go_ret
          rw [HE.out]
          exact ⟨rfl, hin.out.1⟩

  · have d7 : ((ks.length : Int) != (m : Int)) = true := by simp; omega
    have e0 : (ks.length == m) = false := by simpa using hne
    rw [e0]
    clear sA hA bA hm hl h hB hu hd hks hkl hrb hnk hne e0 RS
    go_enter Tryd.func19, Tryd.ntmps19
    go_upto_region 1 with fail
    rw [show (w.alloc (.cells #[.int .i64 7, .int .i64 i, v2, v3, .slice Ak ks.length ck, .slice Al m cl] 26)) = wA from HA.out.symm]
    go_wp2_with fail
    (try simp only [Exit.inBlock, Exit.then])
    go_ret
    exact ⟨by simp, SA.out⟩

set_option maxRecDepth 100000 in
set_option maxHeartbeats 1600000 in
theorem rcan_deep (cs : Array Value) (lx : List Value) (hcs : cs = lx.toArray) (d : Int) (hd : 16 < d) (w : World) :
    Calls Tryd.prog 19 #[.agg cs, .int .i64 d] w fun e w' => e = .returned (.bool false) ∧ Still w w' := by
  subst hcs
  go_enter Tryd.func19, Tryd.ntmps19
  go_upto_region 0 with fail
  refine wp_region_lit ?_
  refine wpList_box_arr rfl 26 (.tmp 0) rfl (some 2) rfl _ rfl ?_
  go_wp2_with fail
  (try simp only [Exit.inBlock, Exit.then])
  go_ret
  exact ⟨rfl, (Still.refl w).alloc (Nat.le_refl _) _⟩
set_option maxRecDepth 100000 in
set_option maxHeartbeats 1600000 in
theorem rcan_leaf (k i : Int) (v2 v3 v4 : Value) (Al : Option Addr) (m cl : Nat) (d : Int) (hd : ¬ 16 < d) (hk : k ≤ 5 ∨ 7 < k) (w : World) :
    Calls Tryd.prog 19 #[.agg #[.int .i64 k, .int .i64 i, v2, v3, v4, .slice Al m cl], .int .i64 d] w fun e w' => e = .returned (.bool (decide (0 ≤ k) && decide (k ≤ 7))) ∧ Still w w' := by
  obtain ⟨wA, hA⟩ : ∃ wA, wA = w.alloc (.cells #[.int .i64 k, .int .i64 i, v2, v3, v4, .slice Al m cl] 26) := ⟨_, rfl⟩
  have sA : Still w wA := by rw [hA]; exact (Still.refl w).alloc (Nat.le_refl _) _
  have bA : Blk wA w.heap.size 26 #[.int .i64 k, .int .i64 i, v2, v3, v4, .slice Al m cl] := by rw [hA]; exact Blk.new _ _ _
  have k0 : wA.cell? ⟨w.heap.size, 0, none⟩ = some (.int .i64 k) := bA.cell 0
  have k5 : wA.cell? ⟨w.heap.size, 5, none⟩ = some (.slice Al m cl) := bA.cell 5
  have HA := Lib.hid hA
  have SA := Lib.hid sA
  clear hA sA bA
  by_cases h1 : k < 0
  · have e : (decide (0 ≤ k) && decide (k ≤ 7)) = false := by rw [show decide (0 ≤ k) = false by simpa using h1]; rfl
    rw [e]
    clear e hk
    go_enter Tryd.func19, Tryd.ntmps19
    go_upto_region 1 with fail
    rw [← HA.out]
    go_wp2_with fail
    (try simp only [Exit.inBlock, Exit.then])
    go_ret
    exact ⟨rfl, SA.out⟩
  by_cases h2 : 7 < k
  · have e : (decide (0 ≤ k) && decide (k ≤ 7)) = false := by rw [show decide (k ≤ 7) = false by simp; omega]; simp
    rw [e]
    clear e hk
    go_enter Tryd.func19, Tryd.ntmps19
    go_upto_region 1 with fail
    rw [← HA.out]
    go_wp2_with fail
    (try simp only [Exit.inBlock, Exit.then])
    go_ret
    exact ⟨rfl, SA.out⟩
  have e : (decide (0 ≤ k) && decide (k ≤ 7)) = true := by rw [show decide (0 ≤ k) = true by simp; omega, show decide (k ≤ 7) = true by simp; omega]; rfl
  rw [e]
  have h3 : ¬ 6 ≤ k := by omega
  have h4 : ¬ k = 7 := by omega
  have h4' : (k == 7) = false := by simpa using h4
  clear e hk
  by_cases hm : 0 < m
  · have h5 : (0 : Int) < (m : Int) := by omega
    clear hm
    go_enter Tryd.func19, Tryd.ntmps19
    go_upto_region 1 with fail
    rw [← HA.out]
    go_wp2_with fail
    go_loopw [5] (fun iv wr => iv = .int .i64 0 ∧ wr = wA) (fun _ _ => 0)
    case atStart => exact ⟨rfl, rfl⟩
    case round =>
      obtain ⟨rfl, rfl⟩ := hrel
      go_wp2_with fail
      go_ret
      exact ⟨rfl, SA.out⟩
  · have h5 : ¬ (0 : Int) < (m : Int) := by omega
    clear hm
    go_enter Tryd.func19, Tryd.ntmps19
    go_upto_region 1 with fail
    rw [← HA.out]
    go_wp2_with fail
    go_loopw [5] (fun iv wr => iv = .int .i64 0 ∧ wr = wA) (fun _ _ => 0)
    case atStart => exact ⟨rfl, rfl⟩
    case round =>
      obtain ⟨rfl, rfl⟩ := hrel
      go_wp2_with fail
      go_ret
      exact ⟨rfl, SA.out⟩

/-- The document's own 'Can', at a depth of up to 17. -/
theorem rcanOK : ∀ (n d : Nat), d + n = 17 → RCanOK d := by
  intro n
  induction n with
  | zero =>
    intro d hd x w B cs h hB
    obtain rfl : d = 17 := by omega
    obtain ⟨k, i, b, t, ks, l⟩ := x
    unfold HasV at h
    obtain ⟨A, n, c, Ak, ck, Al, cl, rfl, _⟩ := h
    have e : canT 17 (.mk k i b t ks l) = false := by unfold canT; simp
    rw [e]
    exact rcan_deep _ _ rfl 17 (by omega) w
  | succ n ih =>
    intro d hd x w B cs h hB
    have OK := ih (d + 1) (by omega)
    obtain ⟨k, i, b, t, ks, l⟩ := x
    unfold HasV at h
    obtain ⟨A, n', c, Ak, ck, Al, cl, rfl, hkb, hib, hr, ht, ⟨hkeys, hkl⟩, hll, hL⟩ := h
    have hd16 : d ≤ 16 := by omega
    by_cases h6 : k = 6
    · subst h6
      have e : canT d (.mk 6 i b t ks l) = canL (d + 1) l := by
        unfold canT
        rw [show decide (d ≤ 16) = true by simpa using hd16]
        simp
      rw [e]
      exact rcan_list d hd16 OK i _ _ Ak ks ck Al l cl w B hB hll hkeys hkl hL
    by_cases h7 : k = 7
    · subst h7
      have e : canT d (.mk 7 i b t ks l) = ((ks.length == l.length && riseB ks) && canL (d + 1) l) := by
        unfold canT
        rw [show decide (d ≤ 16) = true by simpa using hd16]
        simp
      rw [e]
      exact rcan_map d hd16 OK i _ _ Ak ks ck Al l cl w B hB hll hkeys hkl hL
    have e : canT d (.mk k i b t ks l) = (decide (0 ≤ k) && decide (k ≤ 7)) := by
      unfold canT
      rw [show decide (d ≤ 16) = true by simpa using hd16, show decide (k ≠ 7) = true by simpa using h7]
      by_cases h8 : 7 < k
      · rw [show decide (k ≤ 7) = false by simp; omega]; simp
      · rw [show decide (k < 6) = true by simp; omega]; simp
    rw [e]
    exact rcan_leaf k i _ _ _ Al l.length cl d (by omega) (by omega) w
theorem rcan_any (d : Nat) (hd : d ≤ 17) : RCanOK d := rcanOK (17 - d) d (by omega)
end Go.Proofs.YtmjijajndeihaaaDoor

/- The document's own: a number's bytes. It proves no statement. -/



namespace Go.Proofs.YtmjijajndeihaaaDoor
open Go.RowKit
set_option linter.unusedVariables false
set_option linter.unusedSimpArgs false

set_option maxHeartbeats 800000 in
theorem rbig_any (x n : Nat) (w : World) (hx : x < 18446744073709551616) (h1 : 1 ≤ n) (h8 : n ≤ 8) :
    Calls Tryd.prog 57 #[.int .u64 (x : Int), .int .i64 (n : Int)] w fun e w' => (∃ A c, e = .returned (.slice A n c) ∧ Reads w' w'.heap.size A n (leBytes x n).reverse ∧ (A = none → c = 0)) ∧ Still w w' := by
  have P := Lib.hid (rput_yes x n w hx h1 h8)
  have H8 := Lib.hid h8
  clear hx h1 h8
  go_enter Tryd.func57, Tryd.ntmps57
  go_wp2_with fail
  refine P.out.mono ?_
  rintro e w1 ⟨v, rfl, own, s1⟩
  obtain ⟨A, c, rfl, f1, f2, f3⟩ := own_form own
  have BK := Lib.hid (back_any A n c _ w1 _ (Reads.of_own own) (Nat.le_refl _) (by have := H8.out; omega))
  have S1 := Lib.hid s1
  clear own s1 f1 f2 f3
  go_wp2_with fail
  refine BK.out.mono ?_
  rintro e w2 ⟨⟨v, rfl, own⟩, s2⟩
  obtain ⟨A2, c2, rfl, f1, f2, f3⟩ := own_form own
  have RD := Lib.hid (Reads.of_own own)
  have S2 := Lib.hid (S1.out.trans s2)
  have NA := Lib.hid f3
  clear own s2 f1 f2 f3
  go_wp2_with fail
  go_ret
  exact ⟨⟨A2, c2, rfl, RD.out, fun e => (NA.out e).2⟩, S2.out⟩

theorem own_tag (w : World) (t : Nat) (ht : t < 256) : (w.alloc (.cells #[.int .u8 (t : Int)] 5)).ownsRow w.heap.size 5 1 (.slice (some ⟨w.heap.size, 0, none⟩) 1 1) 1 (bytesV [UInt8.ofNat t]) := by
  refine ⟨rfl, .inr ⟨w.heap.size, 1, #[.int .u8 (t : Int)], rfl, Nat.le_refl _, Blk.new _ _ _, Nat.le_refl _, by unfold maxLen; omega, rfl, ?_⟩⟩
  simp [bytesV, UInt8.toNat_ofNat', show t % 256 = t by omega]

set_option maxRecDepth 100000 in
set_option maxHeartbeats 1600000 in
theorem rint_204 (x : Int) (w : World) (hl : -9223372036854775808 ≤ x ∧ x ≤ 9223372036854775807) (hs : ¬ (-32 ≤ x ∧ x ≤ 127)) (h0 : 0 ≤ x) (h1 : x < 256) :
    Calls Tryd.prog 37 #[.int .i64 x] w fun e w' => (∃ v, e = .returned v ∧ w'.ownsRow w.heap.size 5 1 v (1 + 1) (bytesV ([UInt8.ofNat 204] ++ (leBytes (ux x) 1).reverse))) ∧ Still w w' := by
  have BIG := Lib.hid (fun W => rbig_any (ux x) 1 W (ux_lt x) (by omega) (by omega))
  have BIG' : Hid (∀ W, Calls Tryd.prog 57 #[.int .u64 (ux x : Int), .int .i64 1] W fun e w' => (∃ A c, e = .returned (.slice A 1 c) ∧ Reads w' w'.heap.size A 1 (leBytes (ux x) 1).reverse ∧ (A = none → c = 0)) ∧ Still W w') := BIG
  have hw := ux_cast x
  obtain ⟨u, hu⟩ : ∃ u, u = ux x := ⟨_, rfl⟩
  rw [← hu] at BIG' hw ⊢
  have OT := Lib.hid (own_tag w 204 (by omega))
  have st : Still w (w.alloc (.cells #[.int .u8 ((204 : Nat) : Int)] 5)) := (Still.refl w).alloc (Nat.le_refl _) _
  have ST := Lib.hid st
  have g1 : (¬ -32 ≤ x) ∨ (-32 ≤ x ∧ ¬ x < 128) := by omega
  clear BIG st hu hl hs
  rcases g1 with g1 | ⟨g1, g2⟩
  all_goals
    first
    | (exfalso; omega)
    | (go_enter Tryd.func37, Tryd.ntmps37
       go_wp2_with fail
       refine (BIG'.out _).mono ?_
       rintro e w2 ⟨⟨A, c, rfl, rd, na⟩, s2⟩
       have OT2 := Lib.hid (own_still OT.out s2)
       have RD := Lib.hid rd
       have NA := Lib.hid na
       have S2 := Lib.hid (Still.trans ST.out s2)
       clear rd na s2
       go_wp2_with (at_builtin; go_must (refine wpList_adds w2 rfl (.tmp 16) (.tmp 19) rfl w.heap.size (.slice (some ⟨w.heap.size, 0, none⟩) 1 1) 1 [UInt8.ofNat 204] (by kernel_rfl) OT2.out A 1 c w2.heap.size (leBytes u 1).reverse (by kernel_rfl) RD.out NA.out (by omega) S2.out.size ?_))
       intro v w3 own3 gr3 _
       have OW3 := Lib.hid own3
       have S3 := Lib.hid (show Still w w3 from Below.grown S2.out gr3 S2.out.size (fun b e => by have h : w.heap.size = b := Option.some.inj e; omega))
       clear own3 gr3
       go_wp2_with fail
       (try simp only [Exit.inBlock, Exit.then])
       go_ret
       exact ⟨⟨v, rfl, OW3.out⟩, S3.out⟩)
set_option maxRecDepth 100000 in
set_option maxHeartbeats 1600000 in
theorem rint_205 (x : Int) (w : World) (hl : -9223372036854775808 ≤ x ∧ x ≤ 9223372036854775807) (hs : ¬ (-32 ≤ x ∧ x ≤ 127)) (h0 : 0 ≤ x) (n1 : ¬ x < 256) (h2 : x < 65536) :
    Calls Tryd.prog 37 #[.int .i64 x] w fun e w' => (∃ v, e = .returned v ∧ w'.ownsRow w.heap.size 5 1 v (1 + 2) (bytesV ([UInt8.ofNat 205] ++ (leBytes (ux x) 2).reverse))) ∧ Still w w' := by
  have BIG := Lib.hid (fun W => rbig_any (ux x) 2 W (ux_lt x) (by omega) (by omega))
  have BIG' : Hid (∀ W, Calls Tryd.prog 57 #[.int .u64 (ux x : Int), .int .i64 2] W fun e w' => (∃ A c, e = .returned (.slice A 2 c) ∧ Reads w' w'.heap.size A 2 (leBytes (ux x) 2).reverse ∧ (A = none → c = 0)) ∧ Still W w') := BIG
  have hw := ux_cast x
  obtain ⟨u, hu⟩ : ∃ u, u = ux x := ⟨_, rfl⟩
  rw [← hu] at BIG' hw ⊢
  have OT := Lib.hid (own_tag w 205 (by omega))
  have st : Still w (w.alloc (.cells #[.int .u8 ((205 : Nat) : Int)] 5)) := (Still.refl w).alloc (Nat.le_refl _) _
  have ST := Lib.hid st
  have g1 : (¬ -32 ≤ x) ∨ (-32 ≤ x ∧ ¬ x < 128) := by omega
  clear BIG st hu hl hs
  rcases g1 with g1 | ⟨g1, g2⟩
  all_goals
    first
    | (exfalso; omega)
    | (go_enter Tryd.func37, Tryd.ntmps37
       go_wp2_with fail
       refine (BIG'.out _).mono ?_
       rintro e w2 ⟨⟨A, c, rfl, rd, na⟩, s2⟩
       have OT2 := Lib.hid (own_still OT.out s2)
       have RD := Lib.hid rd
       have NA := Lib.hid na
       have S2 := Lib.hid (Still.trans ST.out s2)
       clear rd na s2
       go_wp2_with (at_builtin; go_must (refine wpList_adds w2 rfl (.tmp 23) (.tmp 26) rfl w.heap.size (.slice (some ⟨w.heap.size, 0, none⟩) 1 1) 1 [UInt8.ofNat 205] (by kernel_rfl) OT2.out A 2 c w2.heap.size (leBytes u 2).reverse (by kernel_rfl) RD.out NA.out (by omega) S2.out.size ?_))
       intro v w3 own3 gr3 _
       have OW3 := Lib.hid own3
       have S3 := Lib.hid (show Still w w3 from Below.grown S2.out gr3 S2.out.size (fun b e => by have h : w.heap.size = b := Option.some.inj e; omega))
       clear own3 gr3
       go_wp2_with fail
       (try simp only [Exit.inBlock, Exit.then])
       go_ret
       exact ⟨⟨v, rfl, OW3.out⟩, S3.out⟩)
set_option maxRecDepth 100000 in
set_option maxHeartbeats 1600000 in
theorem rint_206 (x : Int) (w : World) (hl : -9223372036854775808 ≤ x ∧ x ≤ 9223372036854775807) (hs : ¬ (-32 ≤ x ∧ x ≤ 127)) (h0 : 0 ≤ x) (n1 : ¬ x < 256) (n2 : ¬ x < 65536) (h3 : x < 4294967296) :
    Calls Tryd.prog 37 #[.int .i64 x] w fun e w' => (∃ v, e = .returned v ∧ w'.ownsRow w.heap.size 5 1 v (1 + 4) (bytesV ([UInt8.ofNat 206] ++ (leBytes (ux x) 4).reverse))) ∧ Still w w' := by
  have BIG := Lib.hid (fun W => rbig_any (ux x) 4 W (ux_lt x) (by omega) (by omega))
  have BIG' : Hid (∀ W, Calls Tryd.prog 57 #[.int .u64 (ux x : Int), .int .i64 4] W fun e w' => (∃ A c, e = .returned (.slice A 4 c) ∧ Reads w' w'.heap.size A 4 (leBytes (ux x) 4).reverse ∧ (A = none → c = 0)) ∧ Still W w') := BIG
  have hw := ux_cast x
  obtain ⟨u, hu⟩ : ∃ u, u = ux x := ⟨_, rfl⟩
  rw [← hu] at BIG' hw ⊢
  have OT := Lib.hid (own_tag w 206 (by omega))
  have st : Still w (w.alloc (.cells #[.int .u8 ((206 : Nat) : Int)] 5)) := (Still.refl w).alloc (Nat.le_refl _) _
  have ST := Lib.hid st
  have g1 : (¬ -32 ≤ x) ∨ (-32 ≤ x ∧ ¬ x < 128) := by omega
  clear BIG st hu hl hs
  rcases g1 with g1 | ⟨g1, g2⟩
  all_goals
    first
    | (exfalso; omega)
    | (go_enter Tryd.func37, Tryd.ntmps37
       go_wp2_with fail
       refine (BIG'.out _).mono ?_
       rintro e w2 ⟨⟨A, c, rfl, rd, na⟩, s2⟩
       have OT2 := Lib.hid (own_still OT.out s2)
       have RD := Lib.hid rd
       have NA := Lib.hid na
       have S2 := Lib.hid (Still.trans ST.out s2)
       clear rd na s2
       go_wp2_with (at_builtin; go_must (refine wpList_adds w2 rfl (.tmp 30) (.tmp 33) rfl w.heap.size (.slice (some ⟨w.heap.size, 0, none⟩) 1 1) 1 [UInt8.ofNat 206] (by kernel_rfl) OT2.out A 4 c w2.heap.size (leBytes u 4).reverse (by kernel_rfl) RD.out NA.out (by omega) S2.out.size ?_))
       intro v w3 own3 gr3 _
       have OW3 := Lib.hid own3
       have S3 := Lib.hid (show Still w w3 from Below.grown S2.out gr3 S2.out.size (fun b e => by have h : w.heap.size = b := Option.some.inj e; omega))
       clear own3 gr3
       go_wp2_with fail
       (try simp only [Exit.inBlock, Exit.then])
       go_ret
       exact ⟨⟨v, rfl, OW3.out⟩, S3.out⟩)
set_option maxRecDepth 100000 in
set_option maxHeartbeats 1600000 in
theorem rint_207 (x : Int) (w : World) (hl : -9223372036854775808 ≤ x ∧ x ≤ 9223372036854775807) (hs : ¬ (-32 ≤ x ∧ x ≤ 127)) (h0 : 0 ≤ x) (n1 : ¬ x < 256) (n2 : ¬ x < 65536) (n3 : ¬ x < 4294967296) :
    Calls Tryd.prog 37 #[.int .i64 x] w fun e w' => (∃ v, e = .returned v ∧ w'.ownsRow w.heap.size 5 1 v (1 + 8) (bytesV ([UInt8.ofNat 207] ++ (leBytes (ux x) 8).reverse))) ∧ Still w w' := by
  have BIG := Lib.hid (fun W => rbig_any (ux x) 8 W (ux_lt x) (by omega) (by omega))
  have BIG' : Hid (∀ W, Calls Tryd.prog 57 #[.int .u64 (ux x : Int), .int .i64 8] W fun e w' => (∃ A c, e = .returned (.slice A 8 c) ∧ Reads w' w'.heap.size A 8 (leBytes (ux x) 8).reverse ∧ (A = none → c = 0)) ∧ Still W w') := BIG
  have hw := ux_cast x
  obtain ⟨u, hu⟩ : ∃ u, u = ux x := ⟨_, rfl⟩
  rw [← hu] at BIG' hw ⊢
  have OT := Lib.hid (own_tag w 207 (by omega))
  have st : Still w (w.alloc (.cells #[.int .u8 ((207 : Nat) : Int)] 5)) := (Still.refl w).alloc (Nat.le_refl _) _
  have ST := Lib.hid st
  have g1 : (¬ -32 ≤ x) ∨ (-32 ≤ x ∧ ¬ x < 128) := by omega
  clear BIG st hu hl hs
  rcases g1 with g1 | ⟨g1, g2⟩
  all_goals
    first
    | (exfalso; omega)
    | (go_enter Tryd.func37, Tryd.ntmps37
       go_wp2_with fail
       refine (BIG'.out _).mono ?_
       rintro e w2 ⟨⟨A, c, rfl, rd, na⟩, s2⟩
       have OT2 := Lib.hid (own_still OT.out s2)
       have RD := Lib.hid rd
       have NA := Lib.hid na
       have S2 := Lib.hid (Still.trans ST.out s2)
       clear rd na s2
       go_wp2_with (at_builtin; go_must (refine wpList_adds w2 rfl (.tmp 35) (.tmp 38) rfl w.heap.size (.slice (some ⟨w.heap.size, 0, none⟩) 1 1) 1 [UInt8.ofNat 207] (by kernel_rfl) OT2.out A 8 c w2.heap.size (leBytes u 8).reverse (by kernel_rfl) RD.out NA.out (by omega) S2.out.size ?_))
       intro v w3 own3 gr3 _
       have OW3 := Lib.hid own3
       have S3 := Lib.hid (show Still w w3 from Below.grown S2.out gr3 S2.out.size (fun b e => by have h : w.heap.size = b := Option.some.inj e; omega))
       clear own3 gr3
       go_wp2_with fail
       (try simp only [Exit.inBlock, Exit.then])
       go_ret
       exact ⟨⟨v, rfl, OW3.out⟩, S3.out⟩)
set_option maxRecDepth 100000 in
set_option maxHeartbeats 1600000 in
theorem rint_208 (x : Int) (w : World) (hl : -9223372036854775808 ≤ x ∧ x ≤ 9223372036854775807) (hs : ¬ (-32 ≤ x ∧ x ≤ 127)) (n0 : ¬ 0 ≤ x) (h1 : -128 ≤ x) :
    Calls Tryd.prog 37 #[.int .i64 x] w fun e w' => (∃ v, e = .returned v ∧ w'.ownsRow w.heap.size 5 1 v (1 + 1) (bytesV ([UInt8.ofNat 208] ++ (leBytes (ux x) 1).reverse))) ∧ Still w w' := by
  have BIG := Lib.hid (fun W => rbig_any (ux x) 1 W (ux_lt x) (by omega) (by omega))
  have BIG' : Hid (∀ W, Calls Tryd.prog 57 #[.int .u64 (ux x : Int), .int .i64 1] W fun e w' => (∃ A c, e = .returned (.slice A 1 c) ∧ Reads w' w'.heap.size A 1 (leBytes (ux x) 1).reverse ∧ (A = none → c = 0)) ∧ Still W w') := BIG
  have hw := ux_cast x
  obtain ⟨u, hu⟩ : ∃ u, u = ux x := ⟨_, rfl⟩
  rw [← hu] at BIG' hw ⊢
  have OT := Lib.hid (own_tag w 208 (by omega))
  have st : Still w (w.alloc (.cells #[.int .u8 ((208 : Nat) : Int)] 5)) := (Still.refl w).alloc (Nat.le_refl _) _
  have ST := Lib.hid st
  have g1 : (¬ -32 ≤ x) ∨ (-32 ≤ x ∧ ¬ x < 128) := by omega
  clear BIG st hu hl hs
  rcases g1 with g1 | ⟨g1, g2⟩
  all_goals
    first
    | (exfalso; omega)
    | (go_enter Tryd.func37, Tryd.ntmps37
       go_wp2_with fail
       refine (BIG'.out _).mono ?_
       rintro e w2 ⟨⟨A, c, rfl, rd, na⟩, s2⟩
       have OT2 := Lib.hid (own_still OT.out s2)
       have RD := Lib.hid rd
       have NA := Lib.hid na
       have S2 := Lib.hid (Still.trans ST.out s2)
       clear rd na s2
       go_wp2_with (at_builtin; go_must (refine wpList_adds w2 rfl (.tmp 42) (.tmp 45) rfl w.heap.size (.slice (some ⟨w.heap.size, 0, none⟩) 1 1) 1 [UInt8.ofNat 208] (by kernel_rfl) OT2.out A 1 c w2.heap.size (leBytes u 1).reverse (by kernel_rfl) RD.out NA.out (by omega) S2.out.size ?_))
       intro v w3 own3 gr3 _
       have OW3 := Lib.hid own3
       have S3 := Lib.hid (show Still w w3 from Below.grown S2.out gr3 S2.out.size (fun b e => by have h : w.heap.size = b := Option.some.inj e; omega))
       clear own3 gr3
       go_wp2_with fail
       (try simp only [Exit.inBlock, Exit.then])
       go_ret
       exact ⟨⟨v, rfl, OW3.out⟩, S3.out⟩)
set_option maxRecDepth 100000 in
set_option maxHeartbeats 1600000 in
theorem rint_209 (x : Int) (w : World) (hl : -9223372036854775808 ≤ x ∧ x ≤ 9223372036854775807) (hs : ¬ (-32 ≤ x ∧ x ≤ 127)) (n0 : ¬ 0 ≤ x) (n1 : ¬ -128 ≤ x) (h2 : -32768 ≤ x) :
    Calls Tryd.prog 37 #[.int .i64 x] w fun e w' => (∃ v, e = .returned v ∧ w'.ownsRow w.heap.size 5 1 v (1 + 2) (bytesV ([UInt8.ofNat 209] ++ (leBytes (ux x) 2).reverse))) ∧ Still w w' := by
  have BIG := Lib.hid (fun W => rbig_any (ux x) 2 W (ux_lt x) (by omega) (by omega))
  have BIG' : Hid (∀ W, Calls Tryd.prog 57 #[.int .u64 (ux x : Int), .int .i64 2] W fun e w' => (∃ A c, e = .returned (.slice A 2 c) ∧ Reads w' w'.heap.size A 2 (leBytes (ux x) 2).reverse ∧ (A = none → c = 0)) ∧ Still W w') := BIG
  have hw := ux_cast x
  obtain ⟨u, hu⟩ : ∃ u, u = ux x := ⟨_, rfl⟩
  rw [← hu] at BIG' hw ⊢
  have OT := Lib.hid (own_tag w 209 (by omega))
  have st : Still w (w.alloc (.cells #[.int .u8 ((209 : Nat) : Int)] 5)) := (Still.refl w).alloc (Nat.le_refl _) _
  have ST := Lib.hid st
  have g1 : (¬ -32 ≤ x) ∨ (-32 ≤ x ∧ ¬ x < 128) := by omega
  clear BIG st hu hl hs
  rcases g1 with g1 | ⟨g1, g2⟩
  all_goals
    first
    | (exfalso; omega)
    | (go_enter Tryd.func37, Tryd.ntmps37
       go_wp2_with fail
       refine (BIG'.out _).mono ?_
       rintro e w2 ⟨⟨A, c, rfl, rd, na⟩, s2⟩
       have OT2 := Lib.hid (own_still OT.out s2)
       have RD := Lib.hid rd
       have NA := Lib.hid na
       have S2 := Lib.hid (Still.trans ST.out s2)
       clear rd na s2
       go_wp2_with (at_builtin; go_must (refine wpList_adds w2 rfl (.tmp 49) (.tmp 52) rfl w.heap.size (.slice (some ⟨w.heap.size, 0, none⟩) 1 1) 1 [UInt8.ofNat 209] (by kernel_rfl) OT2.out A 2 c w2.heap.size (leBytes u 2).reverse (by kernel_rfl) RD.out NA.out (by omega) S2.out.size ?_))
       intro v w3 own3 gr3 _
       have OW3 := Lib.hid own3
       have S3 := Lib.hid (show Still w w3 from Below.grown S2.out gr3 S2.out.size (fun b e => by have h : w.heap.size = b := Option.some.inj e; omega))
       clear own3 gr3
       go_wp2_with fail
       (try simp only [Exit.inBlock, Exit.then])
       go_ret
       exact ⟨⟨v, rfl, OW3.out⟩, S3.out⟩)
set_option maxRecDepth 100000 in
set_option maxHeartbeats 1600000 in
theorem rint_210 (x : Int) (w : World) (hl : -9223372036854775808 ≤ x ∧ x ≤ 9223372036854775807) (hs : ¬ (-32 ≤ x ∧ x ≤ 127)) (n0 : ¬ 0 ≤ x) (n1 : ¬ -128 ≤ x) (n2 : ¬ -32768 ≤ x) (h3 : -2147483648 ≤ x) :
    Calls Tryd.prog 37 #[.int .i64 x] w fun e w' => (∃ v, e = .returned v ∧ w'.ownsRow w.heap.size 5 1 v (1 + 4) (bytesV ([UInt8.ofNat 210] ++ (leBytes (ux x) 4).reverse))) ∧ Still w w' := by
  have BIG := Lib.hid (fun W => rbig_any (ux x) 4 W (ux_lt x) (by omega) (by omega))
  have BIG' : Hid (∀ W, Calls Tryd.prog 57 #[.int .u64 (ux x : Int), .int .i64 4] W fun e w' => (∃ A c, e = .returned (.slice A 4 c) ∧ Reads w' w'.heap.size A 4 (leBytes (ux x) 4).reverse ∧ (A = none → c = 0)) ∧ Still W w') := BIG
  have hw := ux_cast x
  obtain ⟨u, hu⟩ : ∃ u, u = ux x := ⟨_, rfl⟩
  rw [← hu] at BIG' hw ⊢
  have OT := Lib.hid (own_tag w 210 (by omega))
  have st : Still w (w.alloc (.cells #[.int .u8 ((210 : Nat) : Int)] 5)) := (Still.refl w).alloc (Nat.le_refl _) _
  have ST := Lib.hid st
  have g1 : (¬ -32 ≤ x) ∨ (-32 ≤ x ∧ ¬ x < 128) := by omega
  clear BIG st hu hl hs
  rcases g1 with g1 | ⟨g1, g2⟩
  all_goals
    first
    | (exfalso; omega)
    | (go_enter Tryd.func37, Tryd.ntmps37
       go_wp2_with fail
       refine (BIG'.out _).mono ?_
       rintro e w2 ⟨⟨A, c, rfl, rd, na⟩, s2⟩
       have OT2 := Lib.hid (own_still OT.out s2)
       have RD := Lib.hid rd
       have NA := Lib.hid na
       have S2 := Lib.hid (Still.trans ST.out s2)
       clear rd na s2
       go_wp2_with (at_builtin; go_must (refine wpList_adds w2 rfl (.tmp 56) (.tmp 59) rfl w.heap.size (.slice (some ⟨w.heap.size, 0, none⟩) 1 1) 1 [UInt8.ofNat 210] (by kernel_rfl) OT2.out A 4 c w2.heap.size (leBytes u 4).reverse (by kernel_rfl) RD.out NA.out (by omega) S2.out.size ?_))
       intro v w3 own3 gr3 _
       have OW3 := Lib.hid own3
       have S3 := Lib.hid (show Still w w3 from Below.grown S2.out gr3 S2.out.size (fun b e => by have h : w.heap.size = b := Option.some.inj e; omega))
       clear own3 gr3
       go_wp2_with fail
       (try simp only [Exit.inBlock, Exit.then])
       go_ret
       exact ⟨⟨v, rfl, OW3.out⟩, S3.out⟩)
set_option maxRecDepth 100000 in
set_option maxHeartbeats 1600000 in
theorem rint_211 (x : Int) (w : World) (hl : -9223372036854775808 ≤ x ∧ x ≤ 9223372036854775807) (hs : ¬ (-32 ≤ x ∧ x ≤ 127)) (n0 : ¬ 0 ≤ x) (n1 : ¬ -128 ≤ x) (n2 : ¬ -32768 ≤ x) (n3 : ¬ -2147483648 ≤ x) :
    Calls Tryd.prog 37 #[.int .i64 x] w fun e w' => (∃ v, e = .returned v ∧ w'.ownsRow w.heap.size 5 1 v (1 + 8) (bytesV ([UInt8.ofNat 211] ++ (leBytes (ux x) 8).reverse))) ∧ Still w w' := by
  have BIG := Lib.hid (fun W => rbig_any (ux x) 8 W (ux_lt x) (by omega) (by omega))
  have BIG' : Hid (∀ W, Calls Tryd.prog 57 #[.int .u64 (ux x : Int), .int .i64 8] W fun e w' => (∃ A c, e = .returned (.slice A 8 c) ∧ Reads w' w'.heap.size A 8 (leBytes (ux x) 8).reverse ∧ (A = none → c = 0)) ∧ Still W w') := BIG
  have hw := ux_cast x
  obtain ⟨u, hu⟩ : ∃ u, u = ux x := ⟨_, rfl⟩
  rw [← hu] at BIG' hw ⊢
  have OT := Lib.hid (own_tag w 211 (by omega))
  have st : Still w (w.alloc (.cells #[.int .u8 ((211 : Nat) : Int)] 5)) := (Still.refl w).alloc (Nat.le_refl _) _
  have ST := Lib.hid st
  have g1 : (¬ -32 ≤ x) ∨ (-32 ≤ x ∧ ¬ x < 128) := by omega
  clear BIG st hu hl hs
  rcases g1 with g1 | ⟨g1, g2⟩
  all_goals
    first
    | (exfalso; omega)
    | (go_enter Tryd.func37, Tryd.ntmps37
       go_wp2_with fail
       refine (BIG'.out _).mono ?_
       rintro e w2 ⟨⟨A, c, rfl, rd, na⟩, s2⟩
       have OT2 := Lib.hid (own_still OT.out s2)
       have RD := Lib.hid rd
       have NA := Lib.hid na
       have S2 := Lib.hid (Still.trans ST.out s2)
       clear rd na s2
       go_wp2_with (at_builtin; go_must (refine wpList_adds w2 rfl (.tmp 61) (.tmp 64) rfl w.heap.size (.slice (some ⟨w.heap.size, 0, none⟩) 1 1) 1 [UInt8.ofNat 211] (by kernel_rfl) OT2.out A 8 c w2.heap.size (leBytes u 8).reverse (by kernel_rfl) RD.out NA.out (by omega) S2.out.size ?_))
       intro v w3 own3 gr3 _
       have OW3 := Lib.hid own3
       have S3 := Lib.hid (show Still w w3 from Below.grown S2.out gr3 S2.out.size (fun b e => by have h : w.heap.size = b := Option.some.inj e; omega))
       clear own3 gr3
       go_wp2_with fail
       (try simp only [Exit.inBlock, Exit.then])
       go_ret
       exact ⟨⟨v, rfl, OW3.out⟩, S3.out⟩)

set_option maxRecDepth 100000 in
set_option maxHeartbeats 1600000 in
theorem rint_small (x : Int) (w : World) (hs : -32 ≤ x ∧ x ≤ 127) :
    Calls Tryd.prog 37 #[.int .i64 x] w fun e w' => (∃ v, e = .returned v ∧ w'.ownsRow w.heap.size 5 1 v 1 (bytesV [UInt8.ofNat (nt x)])) ∧ Still w w' := by
  have h1 : -32 ≤ x := hs.1
  have h2 : x < 128 := by omega
  have hn : IntKind.u8.wrap x = (nt x : Int) := by
    have := (nt_small x hs).2
    rw [this]
    simp [IntKind.wrap, IntKind.bits, IntKind.signed]
  have OT := Lib.hid (own_tag w (nt x) (nt_lt x))
  have ST := Lib.hid (show Still w (w.alloc (.cells #[.int .u8 (nt x : Int)] 5)) from (Still.refl w).alloc (Nat.le_refl _) _)
  clear hs
  go_enter Tryd.func37, Tryd.ntmps37
  go_wp2_with fail
  (try simp only [Exit.inBlock, Exit.then])
  go_ret
  exact ⟨⟨_, rfl, OT.out⟩, ST.out⟩

theorem rinteger_any (x : Int) (w : World) (hl : -9223372036854775808 ≤ x ∧ x ≤ 9223372036854775807) :
    Calls Tryd.prog 37 #[.int .i64 x] w fun e w' => (∃ v, e = .returned v ∧ w'.ownsRow w.heap.size 5 1 v (encI x).length (bytesV (encI x))) ∧ Still w w' := by
  by_cases hs : -32 ≤ x ∧ x ≤ 127
  · have e : encI x = [UInt8.ofNat (nt x)] := by
      unfold encI numB
      rw [(nt_small x hs).1]
      rfl
    rw [e]
    exact rint_small x w hs
  have en : ∀ (T n : Nat), nt x = T → bh T = n → encI x = [UInt8.ofNat T] ++ (leBytes (ux x) n).reverse := fun T n h1 h2 => by
    unfold encI numB
    rw [h1, h2]
    rfl
  have el : ∀ (T n : Nat), ([UInt8.ofNat T] ++ (leBytes (ux x) n).reverse).length = 1 + n := fun T n => by simp [leBytes_length]; omega
  by_cases h0 : 0 ≤ x
  · have ep : nt x = pk x.toNat 204 := by unfold nt; rw [if_neg hs, if_pos h0]
    unfold pk at ep
    by_cases h1 : x < 256
    · rw [en 204 1 (by rw [ep, if_pos (by omega)]) rfl, el]
      exact rint_204 x w hl hs h0 h1
    rw [if_neg (by omega)] at ep
    by_cases h2 : x < 65536
    · rw [en 205 2 (by rw [ep, if_pos (by omega)]) rfl, el]
      exact rint_205 x w hl hs h0 h1 h2
    rw [if_neg (by omega)] at ep
    by_cases h3 : x < 4294967296
    · rw [en 206 4 (by rw [ep, if_pos (by omega)]) rfl, el]
      exact rint_206 x w hl hs h0 h1 h2 h3
    rw [if_neg (by omega)] at ep
    rw [en 207 8 ep rfl, el]
    exact rint_207 x w hl hs h0 h1 h2 h3
  · have ep : nt x = pk (2 * (-x - 1)).toNat 208 := by unfold nt; rw [if_neg hs, if_neg h0]
    unfold pk at ep
    by_cases h1 : -128 ≤ x
    · rw [en 208 1 (by rw [ep, if_pos (by omega)]) rfl, el]
      exact rint_208 x w hl hs h0 h1
    rw [if_neg (by omega)] at ep
    by_cases h2 : -32768 ≤ x
    · rw [en 209 2 (by rw [ep, if_pos (by omega)]) rfl, el]
      exact rint_209 x w hl hs h0 h1 h2
    rw [if_neg (by omega)] at ep
    by_cases h3 : -2147483648 ≤ x
    · rw [en 210 4 (by rw [ep, if_pos (by omega)]) rfl, el]
      exact rint_210 x w hl hs h0 h1 h2 h3
    rw [if_neg (by omega)] at ep
    rw [en 211 8 ep rfl, el]
    exact rint_211 x w hl hs h0 h1 h2 h3
end Go.Proofs.YtmjijajndeihaaaDoor

/- The document's own: how many there are. It proves no statement. -/

namespace Go.Proofs.YtmjijajndeihaaaDoor
open Go.RowKit
set_option linter.unusedVariables false
set_option linter.unusedSimpArgs false

section
variable (n few one two : Nat) (most : Int) (w : World)
set_option maxRecDepth 100000 in
set_option maxHeartbeats 1600000 in
theorem rcnt_few (h : (n : Int) ≤ most) (hf : few + n < 256) :
    Calls Tryd.prog 38 #[.int .i64 (n : Int), .int .u8 (few : Int), .int .i64 most, .int .u8 (one : Int), .int .u8 (two : Int)] w fun e w' => (∃ v, e = .returned v ∧ w'.ownsRow w.heap.size 5 1 v 1 (bytesV [UInt8.ofNat (few + n)])) ∧ Still w w' := by
  have e1 : IntKind.u8.wrap (n : Int) = (n : Int) := by simp [IntKind.wrap, IntKind.bits, IntKind.signed]; omega
  have e2 : IntKind.u8.wrap ((few : Int) + (n : Int)) = ((few + n : Nat) : Int) := by simp [IntKind.wrap, IntKind.bits, IntKind.signed]; omega
  have OT := Lib.hid (own_tag w (few + n) hf)
  have ST := Lib.hid (show Still w (w.alloc (.cells #[.int .u8 ((few + n : Nat) : Int)] 5)) from (Still.refl w).alloc (Nat.le_refl _) _)
  clear hf
  go_enter Tryd.func38, Tryd.ntmps38
  go_wp2_with fail
  (try simp only [Exit.inBlock, Exit.then])
  go_ret
  exact ⟨⟨_, rfl, OT.out⟩, ST.out⟩
set_option maxRecDepth 100000 in
set_option maxHeartbeats 1600000 in
theorem rcnt_one (h : ¬ (n : Int) ≤ most) (hn : n < 256) (h1 : one ≠ 0) (h1' : one < 256) :
    Calls Tryd.prog 38 #[.int .i64 (n : Int), .int .u8 (few : Int), .int .i64 most, .int .u8 (one : Int), .int .u8 (two : Int)] w fun e w' => (∃ v, e = .returned v ∧ w'.ownsRow w.heap.size 5 1 v 2 (bytesV [UInt8.ofNat one, UInt8.ofNat n])) ∧ Still w w' := by
  have e1 : IntKind.u8.wrap (n : Int) = (n : Int) := by simp [IntKind.wrap, IntKind.bits, IntKind.signed]; omega
  have d1 : (n : Int) < 256 := by omega
  have d2 : ((one : Int) != 0) = true := by simp; omega
  have OT := Lib.hid (show (w.alloc (.cells #[.int .u8 (one : Int), .int .u8 (n : Int)] 5)).ownsRow w.heap.size 5 1 (.slice (some ⟨w.heap.size, 0, none⟩) 2 2) 2 (bytesV [UInt8.ofNat one, UInt8.ofNat n]) from by
    refine ⟨rfl, .inr ⟨w.heap.size, 2, #[.int .u8 (one : Int), .int .u8 (n : Int)], rfl, Nat.le_refl _, Blk.new _ _ _, Nat.le_refl _, by unfold maxLen; omega, rfl, ?_⟩⟩
    simp [bytesV, UInt8.toNat_ofNat', show n % 256 = n by omega, show one % 256 = one by omega])
  have ST := Lib.hid (show Still w (w.alloc (.cells #[.int .u8 (one : Int), .int .u8 (n : Int)] 5)) from (Still.refl w).alloc (Nat.le_refl _) _)
  clear hn h1 h1'
  go_enter Tryd.func38, Tryd.ntmps38
  go_wp2_with fail
  (try simp only [Exit.inBlock, Exit.then])
  go_ret
  exact ⟨⟨_, rfl, OT.out⟩, ST.out⟩
set_option maxRecDepth 100000 in
set_option maxHeartbeats 1600000 in
theorem rcnt_two (h : ¬ (n : Int) ≤ most) (hn : ¬ n < 256 ∨ one = 0) (h2 : n < 65536) (h2' : two < 256) :
    Calls Tryd.prog 38 #[.int .i64 (n : Int), .int .u8 (few : Int), .int .i64 most, .int .u8 (one : Int), .int .u8 (two : Int)] w fun e w' => (∃ v, e = .returned v ∧ w'.ownsRow w.heap.size 5 1 v (1 + 2) (bytesV ([UInt8.ofNat two] ++ (leBytes n 2).reverse))) ∧ Still w w' := by
  have e1 : IntKind.u64.wrap (n : Int) = (n : Int) := by rw [IntKind.wrap_u64]; omega
  have d1 : (n : Int) < 65536 := by omega
  have BIG := Lib.hid (fun W => rbig_any n 2 W (by omega) (by omega) (by omega))
  have BIG' : Hid (∀ W, Calls Tryd.prog 57 #[.int .u64 (n : Int), .int .i64 2] W fun e w' => (∃ A c, e = .returned (.slice A 2 c) ∧ Reads w' w'.heap.size A 2 (leBytes n 2).reverse ∧ (A = none → c = 0)) ∧ Still W w') := BIG
  have OT := Lib.hid (own_tag w two h2')
  have ST := Lib.hid (show Still w (w.alloc (.cells #[.int .u8 (two : Int)] 5)) from (Still.refl w).alloc (Nat.le_refl _) _)
  have hc : (¬ (n : Int) < 256) ∨ ((n : Int) < 256 ∧ ((one : Int) != 0) = false) := by
    rcases hn with h | h
    · left; omega
    · by_cases q : n < 256
      · right; exact ⟨by omega, by simp [h]⟩
      · left; omega
  clear BIG hn h2 h2'
  rcases hc with d2 | ⟨d2, d3⟩
  all_goals
    go_enter Tryd.func38, Tryd.ntmps38
    go_wp2_with fail
    refine (BIG'.out _).mono ?_
    rintro e w2 ⟨⟨A, c, rfl, rd, na⟩, s2⟩
    have OT2 := Lib.hid (own_still OT.out s2)
    have RD := Lib.hid rd
    have NA := Lib.hid na
    have S2 := Lib.hid (Still.trans ST.out s2)
    clear rd na s2
    go_wp2_with (at_builtin; go_must (refine wpList_adds w2 rfl (.tmp 32) (.tmp 35) rfl w.heap.size (.slice (some ⟨w.heap.size, 0, none⟩) 1 1) 1 [UInt8.ofNat two] (by kernel_rfl) OT2.out A 2 c w2.heap.size (leBytes n 2).reverse (by kernel_rfl) RD.out NA.out (by omega) S2.out.size ?_))
    intro v w3 own3 gr3 _
    have OW3 := Lib.hid own3
    have S3 := Lib.hid (show Still w w3 from Below.grown S2.out gr3 S2.out.size (fun b e => by have h : w.heap.size = b := Option.some.inj e; omega))
    clear own3 gr3
    go_wp2_with fail
    (try simp only [Exit.inBlock, Exit.then])
    go_ret
    exact ⟨⟨v, rfl, OW3.out⟩, S3.out⟩
set_option maxRecDepth 100000 in
set_option maxHeartbeats 1600000 in
theorem rcnt_no (h : ¬ (n : Int) ≤ most) (h2 : ¬ n < 65536) :
    Calls Tryd.prog 38 #[.int .i64 (n : Int), .int .u8 (few : Int), .int .i64 most, .int .u8 (one : Int), .int .u8 (two : Int)] w fun e w' => e = .returned (.slice none 0 0) ∧ w' = w := by
  have d1 : ¬ (n : Int) < 65536 := by omega
  have d2 : ¬ (n : Int) < 256 := by omega
  clear h2
  go_enter Tryd.func38, Tryd.ntmps38
  go_wp2_with fail
  (try simp only [Exit.inBlock, Exit.then])
  go_ret
  exact ⟨rfl, rfl⟩
end

/-- How many there are of a kind: few, most, one, two as the document's own 'bytes' has them. -/
def cntP : Nat → Nat × Int × Nat × Nat
  | 4 => (0, -1, 196, 197)
  | 5 => (160, 31, 217, 218)
  | 6 => (144, 15, 0, 220)
  | _ => (128, 15, 0, 222)
theorem le_one (n : Nat) (hn : n < 256) : (leBytes n 1).reverse = [UInt8.ofNat n] := by simp [leBytes]
theorem rcounted_any (k n : Nat) (h4 : 4 ≤ k) (h7 : k ≤ 7) (w : World) :
    Calls Tryd.prog 38 #[.int .i64 (n : Int), .int .u8 ((cntP k).1 : Int), .int .i64 (cntP k).2.1, .int .u8 ((cntP k).2.2.1 : Int), .int .u8 ((cntP k).2.2.2 : Int)] w fun e w' =>
      (∃ v, e = .returned v ∧ (if 65535 < n then v = .slice none 0 0 else w'.ownsRow w.heap.size 5 1 v (szB k n).length (bytesV (szB k n)))) ∧ Still w w' := by
  by_cases hbig : 65535 < n
  · have hm : ¬ (n : Int) ≤ (cntP k).2.1 := by
      obtain rfl | rfl | rfl | rfl : k = 4 ∨ k = 5 ∨ k = 6 ∨ k = 7 := by omega
      all_goals simp only [cntP]; omega
    refine (rcnt_no n _ _ _ _ w hm (by omega)).mono ?_
    rintro e w' ⟨rfl, rfl⟩
    exact ⟨⟨_, rfl, by rw [if_pos hbig]⟩, Still.refl _⟩
  have sz : szB k n = UInt8.ofNat (st k n) :: numB (st k n) n := by unfold szB; rw [if_neg hbig]
  have two : ∀ T, st k n = T → bh T = 2 → szB k n = [UInt8.ofNat T] ++ (leBytes n 2).reverse := fun T h1 h2 => by rw [sz, h1]; unfold numB; rw [h2]; rfl
  have one : ∀ T, st k n = T → bh T = 1 → n < 256 → szB k n = [UInt8.ofNat T, UInt8.ofNat n] := fun T h1 h2 h3 => by rw [sz, h1]; unfold numB; rw [h2, le_one n h3]
  have none : ∀ T, st k n = T → bh T = 0 → szB k n = [UInt8.ofNat T] := fun T h1 h2 => by rw [sz, h1]; unfold numB; rw [h2]; rfl
  have fin : ∀ (L : List UInt8) (m : Nat), szB k n = L → L.length = m → ∀ {e : Ending} {w' : World}, ((∃ v, e = .returned v ∧ w'.ownsRow w.heap.size 5 1 v m (bytesV L)) ∧ Still w w') → (∃ v, e = .returned v ∧ (if 65535 < n then v = .slice Option.none 0 0 else w'.ownsRow w.heap.size 5 1 v (szB k n).length (bytesV (szB k n)))) ∧ Still w w' := by
    rintro L m hL hm e w' ⟨⟨v, rfl, own⟩, s⟩
    exact ⟨⟨v, rfl, by rw [if_neg hbig, hL, hm]; exact own⟩, s⟩
  have l2 : ∀ T : Nat, ([UInt8.ofNat T] ++ (leBytes n 2).reverse).length = 1 + 2 := fun T => by simp [leBytes_length]
  have b0 : ∀ T : Nat, 128 ≤ T → T < 192 → bh T = 0 := fun T h1 h2 => by unfold bh; rw [if_neg (by omega), if_neg (by omega), if_neg (by omega), if_neg (by omega)]
  obtain rfl | rfl | rfl | rfl : k = 4 ∨ k = 5 ∨ k = 6 ∨ k = 7 := by omega
  · by_cases h : n < 256
    · exact (rcnt_one n 0 196 197 (-1) w (by omega) h (by omega) (by omega)).mono fun e w' => fin _ 2 (one 196 (by rw [st4, if_pos h]) rfl h) rfl
    · exact (rcnt_two n 0 196 197 (-1) w (by omega) (.inl h) (by omega) (by omega)).mono fun e w' => fin _ (1 + 2) (two 197 (by rw [st4, if_neg h]) rfl) (l2 197)
  · by_cases h0 : n < 32
    · exact (rcnt_few n 160 217 218 31 w (by omega) (by omega)).mono fun e w' => fin _ 1 (none (160 + n) (by rw [st5, if_pos h0]) (b0 _ (by omega) (by omega))) rfl
    by_cases h : n < 256
    · exact (rcnt_one n 160 217 218 31 w (by omega) h (by omega) (by omega)).mono fun e w' => fin _ 2 (one 217 (by rw [st5, if_neg h0, if_pos h]) rfl h) rfl
    · exact (rcnt_two n 160 217 218 31 w (by omega) (.inl h) (by omega) (by omega)).mono fun e w' => fin _ (1 + 2) (two 218 (by rw [st5, if_neg h0, if_neg h]) rfl) (l2 218)
  · by_cases h0 : n < 16
    · exact (rcnt_few n 144 0 220 15 w (by omega) (by omega)).mono fun e w' => fin _ 1 (none (144 + n) (by rw [st6, if_pos h0]) (b0 _ (by omega) (by omega))) rfl
    · exact (rcnt_two n 144 0 220 15 w (by omega) (.inr rfl) (by omega) (by omega)).mono fun e w' => fin _ (1 + 2) (two 220 (by rw [st6, if_neg h0]) rfl) (l2 220)
  · by_cases h0 : n < 16
    · exact (rcnt_few n 128 0 222 15 w (by omega) (by omega)).mono fun e w' => fin _ 1 (none (128 + n) (by rw [st7, if_pos h0]) (b0 _ (by omega) (by omega))) rfl
    · exact (rcnt_two n 128 0 222 15 w (by omega) (.inr rfl) (by omega) (by omega)).mono fun e w' => fin _ (1 + 2) (two 222 (by rw [st7, if_neg h0]) rfl) (l2 222)
end Go.Proofs.YtmjijajndeihaaaDoor

/- The document's own: whether two values are the same; all but rows. It proves no statement. -/


namespace Go.Proofs.YtmjijajndeihaaaDoor
open Go.RowKit
set_option linter.unusedVariables false
set_option linter.unusedSimpArgs false

set_option maxRecDepth 100000 in
set_option maxHeartbeats 1600000 in
theorem rsame_plain (k k' i i' : Int) (b b' : Value) (t t' : ByteArray) (ks ks' l l' : Value) (w : World) (hk : k ≠ k' ∨ (k = k' ∧ k ≠ 4 ∧ k ≠ 6 ∧ k ≠ 7)) :
    Calls Tryd.prog 9 #[.agg #[.int .i64 k, .int .i64 i, b, .string t, ks, l], .agg #[.int .i64 k', .int .i64 i', b', .string t', ks', l']] w fun e w' => e = .returned (.bool (decide (k = k') && (if k = 3 then decide (i = i') else if k = 5 then decide (t = t') else true))) ∧ Still w w' := by
  have st : Still w ((w.alloc (.cells #[.int .i64 k, .int .i64 i, b, .string t, ks, l] 26)).alloc (.cells #[.int .i64 k', .int .i64 i', b', .string t', ks', l'] 26)) := ((Still.refl w).alloc (Nat.le_refl _) _).alloc (by simp) _
  have ST := Lib.hid st
  clear st
  rcases hk with hk | ⟨rfl, h4, h6, h7⟩
  · rw [show decide (k = k') = false by simpa using hk, Bool.false_and]
    have d : (k != k') = true := by simpa using hk
    clear hk
    go_enter Tryd.func9, Tryd.ntmps9
    go_wp2_with fail
    (try simp only [Exit.inBlock, Exit.then])
    go_ret
    exact ⟨rfl, ST.out⟩
  · rw [show decide (k = k) = true by simp, Bool.true_and]
    have d4 : (k == 4) = false := by simpa using h4
    have d6 : (k != 6) = true := by simpa using h6
    have d7 : (k != 7) = true := by simpa using h7
    have d7' : (k == 7) = false := by simpa using h7
    by_cases h3 : k = 3
    · subst h3
      rw [if_pos rfl]
      by_cases hi : i = i'
      · have d : (i != i') = false := by simpa using hi
        rw [show decide (i = i') = true by simpa using hi]
        clear h4 h6 h7 hi
        go_enter Tryd.func9, Tryd.ntmps9
        go_wp2_with fail
        (try simp only [Exit.inBlock, Exit.then])
        go_ret
        exact ⟨rfl, ST.out⟩
      · have d : (i != i') = true := by simpa using hi
        rw [show decide (i = i') = false by simpa using hi]
        clear h4 h6 h7 hi
        go_enter Tryd.func9, Tryd.ntmps9
        go_wp2_with fail
        (try simp only [Exit.inBlock, Exit.then])
        go_ret
        exact ⟨rfl, ST.out⟩
    · rw [if_neg h3]
      have d3 : (k == 3) = false := by simpa using h3
      by_cases h5 : k = 5
      · subst h5
        rw [if_pos rfl]
        obtain ⟨q, hq⟩ : ∃ q, q = (t.toList == t'.toList) := ⟨_, rfl⟩
        rw [show decide (t = t') = q by
          rw [hq, Bool.eq_iff_iff]
          simp [text_iff]]
        have hq' := hq.symm
        have hq2 : (t.toList != t'.toList) = !q := by rw [hq]; rfl
        clear hq h4 h6 h7 d3 d4 d6 d7 d7' h3
        cases q
        all_goals
          go_enter Tryd.func9, Tryd.ntmps9
          go_wp2_with fail
          (try simp only [Exit.inBlock, Exit.then])
          go_ret
          exact ⟨rfl, ST.out⟩
      · rw [if_neg h5]
        have d5 : (k == 5) = false := by simpa using h5
        clear h3 h4 h5 h6 h7
        go_enter Tryd.func9, Tryd.ntmps9
        go_wp2_with fail
        (try simp only [Exit.inBlock, Exit.then])
        go_ret
        exact ⟨rfl, ST.out⟩

set_option maxRecDepth 100000 in
set_option maxHeartbeats 1600000 in
theorem rsame_bytes (i i' : Int) (A A' : Option Addr) (n n' c c' : Nat) (b b' : List UInt8) (t t' : ByteArray) (ks ks' l l' : Value) (w : World) (B B' : Nat) (h : Reads w B A n b) (h' : Reads w B' A' n' b') (hB : B ≤ w.heap.size) (hB' : B' ≤ w.heap.size) (hn : n ≤ 1048576) (hn' : n' ≤ 1048576) :
    Calls Tryd.prog 9 #[.agg #[.int .i64 4, .int .i64 i, .slice A n c, .string t, ks, l], .agg #[.int .i64 4, .int .i64 i', .slice A' n' c', .string t', ks', l']] w fun e w' => e = .returned (.bool (decide (b = b'))) ∧ Still w w' := by
  obtain ⟨wA, hA, sA, b1, b2⟩ := two_boxes w #[.int .i64 4, .int .i64 i, .slice A n c, .string t, ks, l] #[.int .i64 4, .int .i64 i', .slice A' n' c', .string t', ks', l']
  have SB := Lib.hid (same_any A A' n n' c c' b b' wA B B' (h.still hB sA) (h'.still hB' sA) (by omega) (by omega))
  obtain ⟨q, hq⟩ : ∃ q, q = decide (b = b') := ⟨_, rfl⟩
  rw [← hq] at SB ⊢
  have HA := Lib.hid hA
  have SA := Lib.hid sA
  have B1 := Lib.hid b1
  have B2 := Lib.hid b2
  clear hA sA b1 b2 h h' hB hB' hn hn' hq
  cases q
  all_goals
    go_enter Tryd.func9, Tryd.ntmps9
    go_upto_region 1 with fail
    rw [← HA.out]
    have k0 : wA.cell? ⟨w.heap.size, 0, none⟩ = some (.int .i64 4) := B1.out.cell 0
    have k0' : wA.cell? ⟨w.heap.size + 1, 0, none⟩ = some (.int .i64 4) := B2.out.cell 0
    have k2 : wA.cell? ⟨w.heap.size, 2, none⟩ = some (.slice A n c) := B1.out.cell 2
    have k2' : wA.cell? ⟨w.heap.size + 1, 2, none⟩ = some (.slice A' n' c') := B2.out.cell 2
    go_wp2_with fail
    refine SB.out.mono ?_
    rintro e w1 ⟨rfl, s1⟩
    have S1 := Lib.hid (SA.out.trans s1)
    have m0 : w1.cell? ⟨w.heap.size, 0, none⟩ = some (.int .i64 4) := (B1.out.still s1).cell 0
    clear s1 k0 k0' k2 k2'
    go_wp2_with fail
    (try simp only [Exit.inBlock, Exit.then])
    go_ret
    exact ⟨rfl, S1.out⟩
end Go.Proofs.YtmjijajndeihaaaDoor

/- The document's own: whether two values are the same; lists. It proves no statement. -/



namespace Go.Proofs.YtmjijajndeihaaaDoor
open Go.RowKit
set_option linter.unusedVariables false
set_option linter.unusedSimpArgs false

/-- What is said of the document's own 'Same'. -/
def RSameOK (x : Tr) : Prop := ∀ (y : Tr) (w : World) (B B' : Nat) (cs cs' : Array Value), HasV w B x cs → HasV w B' y cs' → B ≤ w.heap.size → B' ≤ w.heap.size →
  Calls Tryd.prog 9 #[.agg cs, .agg cs'] w fun e w' => e = .returned (.bool (sameT x y)) ∧ Still w w'

set_option maxRecDepth 100000 in
set_option maxHeartbeats 6400000 in
theorem rsame_list (i i' : Int) (v2 v3 v4 v2' v3' v4' : Value) (Al Al' : Option Addr) (cl cl' : Nat) (l l' : List Tr) (IH : ∀ x ∈ l, RSameOK x) (w : World) (B B' : Nat) (hB : B ≤ w.heap.size) (hB' : B' ≤ w.heap.size) (hn : l.length ≤ 1048576) (hn' : l'.length ≤ 1048576)
    (h : 0 < l.length → ∃ g o, Al = some ⟨g, o, none⟩ ∧ g < B ∧ HasL w B g o l) (h' : 0 < l'.length → ∃ g o, Al' = some ⟨g, o, none⟩ ∧ g < B' ∧ HasL w B' g o l') :
    Calls Tryd.prog 9 #[.agg #[.int .i64 6, .int .i64 i, v2, v3, v4, .slice Al l.length cl], .agg #[.int .i64 6, .int .i64 i', v2', v3', v4', .slice Al' l'.length cl']] w fun e w' => e = .returned (.bool (sameL l l')) ∧ Still w w' := by
  by_cases hlen : l.length = l'.length
  · obtain ⟨m, hm⟩ : ∃ m, m = l.length := ⟨_, rfl⟩
    have hm' : m = l'.length := by omega
    rw [← hm'] at h' ⊢
    rw [← hm] at h hn ⊢
    obtain ⟨wA, hA, sA, b1, b2⟩ := two_boxes w #[.int .i64 6, .int .i64 i, v2, v3, v4, .slice Al m cl] #[.int .i64 6, .int .i64 i', v2', v3', v4', .slice Al' m cl']
    obtain ⟨g0, hg0⟩ : ∃ g0, g0 = w.heap.size := ⟨_, rfl⟩
    have HG0 := Lib.hid hg0
    rw [← hg0] at b1 b2
    have HM := Lib.hid hm
    have HM' := Lib.hid hm'
    have HH := Lib.hid h
    have HH' := Lib.hid h'
    have HBW := Lib.hid hB
    have HBW' := Lib.hid hB'
    have HA := Lib.hid hA
    have SA := Lib.hid sA
    have B1 := Lib.hid b1
    have B2 := Lib.hid b2
    have d3 : (m : Int) ≤ 1048576 := by omega
    clear hA sA b1 b2 hm hm' h h' hB hB' hn hn' hlen hg0
    go_enter Tryd.func9, Tryd.ntmps9
    go_upto_region 1 with fail
    rw [← HA.out, ← HG0.out]
    have k0 : wA.cell? ⟨g0, 0, none⟩ = some (.int .i64 6) := B1.out.cell 0
    have k0' : wA.cell? ⟨g0 + 1, 0, none⟩ = some (.int .i64 6) := B2.out.cell 0
    have k5 : wA.cell? ⟨g0, 5, none⟩ = some (.slice Al m cl) := B1.out.cell 5
    have k5' : wA.cell? ⟨g0 + 1, 5, none⟩ = some (.slice Al' m cl') := B2.out.cell 5
    go_wp2_with fail
    go_loopw [6] (fun iv wr => ∃ j : Nat, j ≤ m ∧ iv = .int .i64 j ∧ Hid (Still w wr ∧ Blk wr g0 26 #[.int .i64 6, .int .i64 i, v2, v3, v4, .slice Al m cl] ∧ Blk wr (g0 + 1) 26 #[.int .i64 6, .int .i64 i', v2', v3', v4', .slice Al' m cl'] ∧ sameL l l' = sameL (l.drop j) (l'.drop j))) (fun iv _ => m - (intOf iv).toNat)
    case atStart => exact ⟨0, by omega, rfl, SA.out, B1.out, B2.out, rfl⟩
    case round =>
      obtain ⟨j, hj, rfl, hin⟩ := hrel
      have k5 : wr.cell? ⟨g0, 5, none⟩ = some (.slice Al m cl) := hin.out.2.1.cell 5
      have k5' : wr.cell? ⟨g0 + 1, 5, none⟩ = some (.slice Al' m cl') := hin.out.2.2.1.cell 5
      by_cases hlt : j < m
      · obtain ⟨gl, ol, rfl, hgl, hh⟩ := HH.out (by omega)
        obtain ⟨gl', ol', rfl, hgl', hh'⟩ := HH'.out (by omega)
        obtain ⟨x, hx⟩ : ∃ x, l[j]? = some x := ⟨_, List.getElem?_eq_getElem (by rw [← HM.out]; exact hlt)⟩
        obtain ⟨x', hx'⟩ : ∃ x, l'[j]? = some x := ⟨_, List.getElem?_eq_getElem (by rw [← HM'.out]; exact hlt)⟩
        obtain ⟨⟨lx⟩, hvx, hzx, hcx⟩ := HasL.at l ol (HasL.below (Below.mono hin.out.1 HBW.out) gl hgl ol l hh) j x hx
        obtain ⟨⟨lx'⟩, hvx', hzx', hcx'⟩ := HasL.at l' ol' (HasL.below (Below.mono hin.out.1 HBW'.out) gl' hgl' ol' l' hh') j x' hx'
        have d1 : (j : Int) < (m : Int) := by omega
        have d2 : (0 : Int) ≤ (j : Int) := by omega
        have hsx : sameL (l.drop j) (l'.drop j) = (sameT x x' && sameL (l.drop (j + 1)) (l'.drop (j + 1))) := by
          rw [drop_at l j x hx, drop_at l' j x' hx', sameL]
        have LX := Lib.hid (show lx.length = 6 by simpa using hzx)
        have LX' := Lib.hid (show lx'.length = 6 by simpa using hzx')
        have rng : wr.rangeAt gl (ol + j * 6) lx := fun q v hq => by
          have := hcx q v (by simpa using hq)
          rwa [show ol + 6 * j + q = ol + j * 6 + q by omega] at this
        have rng' : wr.rangeAt gl' (ol' + j * 6) lx' := fun q v hq => by
          have := hcx' q v (by simpa using hq)
          rwa [show ol' + 6 * j + q = ol' + j * 6 + q by omega] at this
        have hz0 := hin.out.1.size
        have SOK := Lib.hid (show ∀ W, Still wr W → W.cell? ⟨g0, 5, none⟩ = some (.slice (some ⟨gl, ol, none⟩) m cl) ∧ W.cell? ⟨g0 + 1, 5, none⟩ = some (.slice (some ⟨gl', ol', none⟩) m cl') ∧ W.rangeAt gl (ol + j * 6) lx ∧ W.rangeAt gl' (ol' + j * 6) lx' from fun W s =>
          ⟨(hin.out.2.1.still s).cell 5, (hin.out.2.2.1.still s).cell 5, fun q v hq => (s.cell (p := ⟨gl, ol + j * 6 + q, none⟩) (by have := HBW.out; simp only; omega)).trans (rng q v hq), fun q v hq => (s.cell (p := ⟨gl', ol' + j * 6 + q, none⟩) (by have := HBW'.out; simp only; omega)).trans (rng' q v hq)⟩)
        have CC0 := Lib.hid (show ∀ W, Still wr W → Calls Tryd.prog 9 #[.agg lx.toArray, .agg lx'.toArray] W fun e w' => e = .returned (.bool (sameT x x')) ∧ Still W w' from fun W s =>
          IH x (List.mem_of_getElem? hx) x' W B B' lx.toArray lx'.toArray (HasV.below (Below.mono s (Nat.le_trans HBW.out hz0)) _ _ hvx) (HasV.below (Below.mono s (Nat.le_trans HBW'.out hz0)) _ _ hvx') (Nat.le_trans (Nat.le_trans HBW.out hz0) s.size) (Nat.le_trans (Nat.le_trans HBW'.out hz0) s.size))
        have HSX := Lib.hid hsx
        have HLT := Lib.hid hlt
        generalize sameT x x' = q at CC0 HSX
        have CC := CC0
        clear CC0 hlt hx hx' hh hh' hgl hgl' hvx hvx' hzx hzx' hcx hcx' hsx rng rng' hz0
        cases q
        · skip
          go_upto_region 20 with fail
          refine wp_region_held_drew (S := fun W => W.cell? ⟨g0, 5, none⟩ = some (.slice (some ⟨gl, ol, none⟩) m cl) ∧ W.cell? ⟨g0 + 1, 5, none⟩ = some (.slice (some ⟨gl', ol', none⟩) m cl') ∧ W.rangeAt gl (ol + j * 6) lx ∧ W.rangeAt gl' (ol' + j * 6) lx') (by kernel_rfl) ?_ (fun hHeld => ?_)
          · exact SOK.out _ ((Still.refl wr).drew)
          try simp only [Act.put, List.setIfInBounds_toArray, List.set_cons_zero, List.set_cons_succ]
          refine wpAnyH_take (i := 0) (v := .pointer (some ⟨g0, 5, none⟩)) rfl (by kernel_rfl) (by kernel_rfl) (by kernel_rfl) (fun _ _ _ h => h) (Or.inl ⟨by kernel_rfl, fun w hS => by obtain ⟨h0, h1, h2, h3⟩ := hS; go_simp⟩) (by assumption) ?_
          simp only [Act.put, List.setIfInBounds_toArray, List.set_cons_zero, List.set_cons_succ]
          refine wpAnyH_take (i := 1) (v := .slice (some ⟨gl, ol, none⟩) m cl) rfl (by kernel_rfl) (by kernel_rfl) (by kernel_rfl) (fun _ _ _ h => h) (Or.inl ⟨by kernel_rfl, fun w hS => by obtain ⟨h0, h1, h2, h3⟩ := hS; go_simp⟩) (by assumption) ?_
          simp only [Act.put, List.setIfInBounds_toArray, List.set_cons_zero, List.set_cons_succ]
          refine wpAnyH_take (i := 2) (v := .int .i64 (j : Int)) rfl (by kernel_rfl) (by kernel_rfl) (by kernel_rfl) (fun _ _ _ h => h) (Or.inl ⟨by kernel_rfl, fun w hS => by obtain ⟨h0, h1, h2, h3⟩ := hS; go_simp⟩) (by assumption) ?_
          simp only [Act.put, List.setIfInBounds_toArray, List.set_cons_zero, List.set_cons_succ]
          refine wpAnyH_take (i := 3) (v := .pointer (some ⟨gl, ol + j * 6, none⟩)) rfl (by kernel_rfl) (by kernel_rfl) (by kernel_rfl) (fun _ _ _ h => h) (Or.inl ⟨by kernel_rfl, fun w hS => by obtain ⟨h0, h1, h2, h3⟩ := hS; go_simp⟩) (by assumption) ?_
          simp only [Act.put, List.setIfInBounds_toArray, List.set_cons_zero, List.set_cons_succ]
          refine wpAnyH_take (i := 4) (v := .agg lx.toArray) rfl (by kernel_rfl) (by kernel_rfl) (by kernel_rfl) (fun _ _ _ h => h) ?hy4 (by assumption) ?_
          case hy4 =>
            refine yieldsIf_load_mid ?hw4 26 (.tmp 100) ?ho4 gl (ol + j * 6) ?hx4 lx _ (fun w h => h.2.2.1) (Tryd.underlying26) ?hd4 (by rw [sizeValue, LX.out])
            case hw4 => kernel_rfl
            case ho4 => rfl
            case hx4 => kernel_rfl
            case hd4 => rfl
          simp only [Act.put, List.setIfInBounds_toArray, List.set_cons_zero, List.set_cons_succ]
          refine wpAnyH_take (i := 5) (v := .pointer (some ⟨g0 + 1, 5, none⟩)) rfl (by kernel_rfl) (by kernel_rfl) (by kernel_rfl) (fun _ _ _ h => h) (Or.inl ⟨by kernel_rfl, fun w hS => by obtain ⟨h0, h1, h2, h3⟩ := hS; go_simp⟩) (by assumption) ?_
          simp only [Act.put, List.setIfInBounds_toArray, List.set_cons_zero, List.set_cons_succ]
          refine wpAnyH_take (i := 6) (v := .slice (some ⟨gl', ol', none⟩) m cl') rfl (by kernel_rfl) (by kernel_rfl) (by kernel_rfl) (fun _ _ _ h => h) (Or.inl ⟨by kernel_rfl, fun w hS => by obtain ⟨h0, h1, h2, h3⟩ := hS; go_simp⟩) (by assumption) ?_
          simp only [Act.put, List.setIfInBounds_toArray, List.set_cons_zero, List.set_cons_succ]
          refine wpAnyH_take (i := 7) (v := .int .i64 (j : Int)) rfl (by kernel_rfl) (by kernel_rfl) (by kernel_rfl) (fun _ _ _ h => h) (Or.inl ⟨by kernel_rfl, fun w hS => by obtain ⟨h0, h1, h2, h3⟩ := hS; go_simp⟩) (by assumption) ?_
          simp only [Act.put, List.setIfInBounds_toArray, List.set_cons_zero, List.set_cons_succ]
          refine wpAnyH_take (i := 8) (v := .pointer (some ⟨gl', ol' + j * 6, none⟩)) rfl (by kernel_rfl) (by kernel_rfl) (by kernel_rfl) (fun _ _ _ h => h) (Or.inl ⟨by kernel_rfl, fun w hS => by obtain ⟨h0, h1, h2, h3⟩ := hS; go_simp⟩) (by assumption) ?_
          simp only [Act.put, List.setIfInBounds_toArray, List.set_cons_zero, List.set_cons_succ]
          refine wpAnyH_take (i := 9) (v := .agg lx'.toArray) rfl (by kernel_rfl) (by kernel_rfl) (by kernel_rfl) (fun _ _ _ h => h) ?hy9 (by assumption) ?_
          case hy9 =>
            refine yieldsIf_load_mid ?hw9 26 (.tmp 105) ?ho9 gl' (ol' + j * 6) ?hx9 lx' _ (fun w h => h.2.2.2) (Tryd.underlying26) ?hd9 (by rw [sizeValue, LX'.out])
            case hw9 => kernel_rfl
            case ho9 => rfl
            case hx9 => kernel_rfl
            case hd9 => rfl
          simp only [Act.put, List.setIfInBounds_toArray, List.set_cons_zero, List.set_cons_succ]
          refine wpAnyH_ready (rs := [10]) (by kernel_rfl) (by simp) ?_
          refine AllReadyH.cons (o := ⟨some 107, .call { callee := .value (.func 9), args := #[.tmp 101, .tmp 106], argTypes := #[26, 26] }, _, _, _, none⟩) rfl (fun K hK => ?_) AllReadyH.nil
          go_simp
          go_wp2_with (go_at_call 9; refine (CC.out _ ((Still.refl wr).drew)).mono ?_; rintro e w1 ⟨rfl, s1⟩; have t1 : Still wr w1 := Still.trans ((Still.refl wr).drew) s1)
          refine hK.out _ _ (SOK.out _ t1) (fun hHeld => ?_)
          clear hK K
          try simp only [Act.put, List.setIfInBounds_toArray, List.set_cons_zero, List.set_cons_succ]
          refine wpAnyH_take (i := 11) (oi := ⟨some 108, .unOp .not 4 (.tmp 107), _, _, _, none⟩) (v := .bool true) rfl (by kernel_rfl) (by kernel_rfl) (by kernel_rfl) (fun _ _ _ h => h) (Or.inl ⟨by kernel_rfl, fun w hS => by obtain ⟨h0, h1, h2, h3⟩ := hS; go_simp⟩) (by assumption) ?_
          simp only [Act.put, List.setIfInBounds_toArray, List.set_cons_zero, List.set_cons_succ]
          refine wpAnyH_done (by kernel_rfl) ?_ _
          have S1 := Lib.hid (Still.trans hin.out.1 t1)
          have BX := Lib.hid (hin.out.2.1.still t1)
          have BX' := Lib.hid (hin.out.2.2.1.still t1)
          have Q := Lib.hid (show sameL l l' = false by rw [hin.out.2.2.2, HSX.out]; simp)
          go_wp2_with fail
          (try simp only [Exit.inBlock, Exit.then])
          go_ret
          rw [Q.out]
          exact ⟨by simp, S1.out⟩
        · skip
          go_upto_region 20 with fail
          refine wp_region_held_drew (S := fun W => W.cell? ⟨g0, 5, none⟩ = some (.slice (some ⟨gl, ol, none⟩) m cl) ∧ W.cell? ⟨g0 + 1, 5, none⟩ = some (.slice (some ⟨gl', ol', none⟩) m cl') ∧ W.rangeAt gl (ol + j * 6) lx ∧ W.rangeAt gl' (ol' + j * 6) lx') (by kernel_rfl) ?_ (fun hHeld => ?_)
          · exact SOK.out _ ((Still.refl wr).drew)
          try simp only [Act.put, List.setIfInBounds_toArray, List.set_cons_zero, List.set_cons_succ]
          refine wpAnyH_take (i := 0) (v := .pointer (some ⟨g0, 5, none⟩)) rfl (by kernel_rfl) (by kernel_rfl) (by kernel_rfl) (fun _ _ _ h => h) (Or.inl ⟨by kernel_rfl, fun w hS => by obtain ⟨h0, h1, h2, h3⟩ := hS; go_simp⟩) (by assumption) ?_
          simp only [Act.put, List.setIfInBounds_toArray, List.set_cons_zero, List.set_cons_succ]
          refine wpAnyH_take (i := 1) (v := .slice (some ⟨gl, ol, none⟩) m cl) rfl (by kernel_rfl) (by kernel_rfl) (by kernel_rfl) (fun _ _ _ h => h) (Or.inl ⟨by kernel_rfl, fun w hS => by obtain ⟨h0, h1, h2, h3⟩ := hS; go_simp⟩) (by assumption) ?_
          simp only [Act.put, List.setIfInBounds_toArray, List.set_cons_zero, List.set_cons_succ]
          refine wpAnyH_take (i := 2) (v := .int .i64 (j : Int)) rfl (by kernel_rfl) (by kernel_rfl) (by kernel_rfl) (fun _ _ _ h => h) (Or.inl ⟨by kernel_rfl, fun w hS => by obtain ⟨h0, h1, h2, h3⟩ := hS; go_simp⟩) (by assumption) ?_
          simp only [Act.put, List.setIfInBounds_toArray, List.set_cons_zero, List.set_cons_succ]
          refine wpAnyH_take (i := 3) (v := .pointer (some ⟨gl, ol + j * 6, none⟩)) rfl (by kernel_rfl) (by kernel_rfl) (by kernel_rfl) (fun _ _ _ h => h) (Or.inl ⟨by kernel_rfl, fun w hS => by obtain ⟨h0, h1, h2, h3⟩ := hS; go_simp⟩) (by assumption) ?_
          simp only [Act.put, List.setIfInBounds_toArray, List.set_cons_zero, List.set_cons_succ]
          refine wpAnyH_take (i := 4) (v := .agg lx.toArray) rfl (by kernel_rfl) (by kernel_rfl) (by kernel_rfl) (fun _ _ _ h => h) ?hy4 (by assumption) ?_
          case hy4 =>
            refine yieldsIf_load_mid ?hw4 26 (.tmp 100) ?ho4 gl (ol + j * 6) ?hx4 lx _ (fun w h => h.2.2.1) (Tryd.underlying26) ?hd4 (by rw [sizeValue, LX.out])
            case hw4 => kernel_rfl
            case ho4 => rfl
            case hx4 => kernel_rfl
            case hd4 => rfl
          simp only [Act.put, List.setIfInBounds_toArray, List.set_cons_zero, List.set_cons_succ]
          refine wpAnyH_take (i := 5) (v := .pointer (some ⟨g0 + 1, 5, none⟩)) rfl (by kernel_rfl) (by kernel_rfl) (by kernel_rfl) (fun _ _ _ h => h) (Or.inl ⟨by kernel_rfl, fun w hS => by obtain ⟨h0, h1, h2, h3⟩ := hS; go_simp⟩) (by assumption) ?_
          simp only [Act.put, List.setIfInBounds_toArray, List.set_cons_zero, List.set_cons_succ]
          refine wpAnyH_take (i := 6) (v := .slice (some ⟨gl', ol', none⟩) m cl') rfl (by kernel_rfl) (by kernel_rfl) (by kernel_rfl) (fun _ _ _ h => h) (Or.inl ⟨by kernel_rfl, fun w hS => by obtain ⟨h0, h1, h2, h3⟩ := hS; go_simp⟩) (by assumption) ?_
          simp only [Act.put, List.setIfInBounds_toArray, List.set_cons_zero, List.set_cons_succ]
          refine wpAnyH_take (i := 7) (v := .int .i64 (j : Int)) rfl (by kernel_rfl) (by kernel_rfl) (by kernel_rfl) (fun _ _ _ h => h) (Or.inl ⟨by kernel_rfl, fun w hS => by obtain ⟨h0, h1, h2, h3⟩ := hS; go_simp⟩) (by assumption) ?_
          simp only [Act.put, List.setIfInBounds_toArray, List.set_cons_zero, List.set_cons_succ]
          refine wpAnyH_take (i := 8) (v := .pointer (some ⟨gl', ol' + j * 6, none⟩)) rfl (by kernel_rfl) (by kernel_rfl) (by kernel_rfl) (fun _ _ _ h => h) (Or.inl ⟨by kernel_rfl, fun w hS => by obtain ⟨h0, h1, h2, h3⟩ := hS; go_simp⟩) (by assumption) ?_
          simp only [Act.put, List.setIfInBounds_toArray, List.set_cons_zero, List.set_cons_succ]
          refine wpAnyH_take (i := 9) (v := .agg lx'.toArray) rfl (by kernel_rfl) (by kernel_rfl) (by kernel_rfl) (fun _ _ _ h => h) ?hy9 (by assumption) ?_
          case hy9 =>
            refine yieldsIf_load_mid ?hw9 26 (.tmp 105) ?ho9 gl' (ol' + j * 6) ?hx9 lx' _ (fun w h => h.2.2.2) (Tryd.underlying26) ?hd9 (by rw [sizeValue, LX'.out])
            case hw9 => kernel_rfl
            case ho9 => rfl
            case hx9 => kernel_rfl
            case hd9 => rfl
          simp only [Act.put, List.setIfInBounds_toArray, List.set_cons_zero, List.set_cons_succ]
          refine wpAnyH_ready (rs := [10]) (by kernel_rfl) (by simp) ?_
          refine AllReadyH.cons (o := ⟨some 107, .call { callee := .value (.func 9), args := #[.tmp 101, .tmp 106], argTypes := #[26, 26] }, _, _, _, none⟩) rfl (fun K hK => ?_) AllReadyH.nil
          go_simp
          go_wp2_with (go_at_call 9; refine (CC.out _ ((Still.refl wr).drew)).mono ?_; rintro e w1 ⟨rfl, s1⟩; have t1 : Still wr w1 := Still.trans ((Still.refl wr).drew) s1)
          refine hK.out _ _ (SOK.out _ t1) (fun hHeld => ?_)
          clear hK K
          try simp only [Act.put, List.setIfInBounds_toArray, List.set_cons_zero, List.set_cons_succ]
          refine wpAnyH_take (i := 11) (oi := ⟨some 108, .unOp .not 4 (.tmp 107), _, _, _, none⟩) (v := .bool false) rfl (by kernel_rfl) (by kernel_rfl) (by kernel_rfl) (fun _ _ _ h => h) (Or.inl ⟨by kernel_rfl, fun w hS => by obtain ⟨h0, h1, h2, h3⟩ := hS; go_simp⟩) (by assumption) ?_
          simp only [Act.put, List.setIfInBounds_toArray, List.set_cons_zero, List.set_cons_succ]
          refine wpAnyH_done (by kernel_rfl) ?_ _
          have S1 := Lib.hid (Still.trans hin.out.1 t1)
          have BX := Lib.hid (hin.out.2.1.still t1)
          have BX' := Lib.hid (hin.out.2.2.1.still t1)
          have Q := Lib.hid (show sameL l l' = sameL (l.drop (j + 1)) (l'.drop (j + 1)) by rw [hin.out.2.2.2, HSX.out]; simp)
          clear t1
          go_wp2_with fail
          go_roundw
          case rel => exact ⟨j + 1, by have := HLT.out; omega, by go_num, S1.out, BX.out, BX'.out, Q.out⟩
          case measure => simp [intOf]; have := HLT.out; omega
      · obtain rfl : j = m := by omega
        have hend : sameL l l' = true := by
          rw [hin.out.2.2.2, List.drop_of_length_le (by rw [HM.out]; omega), List.drop_of_length_le (by rw [HM'.out]; omega)]
          unfold sameL
          rfl
        have HE := Lib.hid hend
        have d1 : ¬ (j : Int) < (j : Int) := by omega
        clear hend hlt
        go_wp2_with fail
        go_ret
        rw [HE.out]
        exact ⟨by simp, hin.out.1⟩
  · have hs : sameL l l' = false := sameL_len l l' hlen
    rw [hs]
    obtain ⟨m, hm⟩ : ∃ m, m = l.length := ⟨_, rfl⟩
    obtain ⟨m', hm'⟩ : ∃ m', m' = l'.length := ⟨_, rfl⟩
    rw [← hm, ← hm'] at hlen ⊢
    have d : ((m : Int) != (m' : Int)) = true := by simp; omega
    have ST := Lib.hid (show Still w ((w.alloc (.cells #[.int .i64 6, .int .i64 i, v2, v3, v4, .slice Al m cl] 26)).alloc (.cells #[.int .i64 6, .int .i64 i', v2', v3', v4', .slice Al' m' cl'] 26)) from ((Still.refl w).alloc (Nat.le_refl _) _).alloc (by simp) _)
    clear hm hm' hlen h h' hn hn' hs
    go_enter Tryd.func9, Tryd.ntmps9
    go_wp2_with fail
    (try simp only [Exit.inBlock, Exit.then])
    go_ret
    exact ⟨rfl, ST.out⟩
end Go.Proofs.YtmjijajndeihaaaDoor

/- The document's own: whether two values are the same; maps, all. It proves no statement. -/





namespace Go.Proofs.YtmjijajndeihaaaDoor
open Go.RowKit
set_option linter.unusedVariables false
set_option linter.unusedSimpArgs false

theorem keys_all {ks ks' : List ByteArray} (h : ks.length = ks'.length) : ks = ks' ↔ ∀ j, j < ks.length → ks.getD j ByteArray.empty = ks'.getD j ByteArray.empty := by
  constructor
  · rintro rfl j _; rfl
  · intro hh
    apply List.ext_getElem h
    intro j h1 h2
    have := hh j h1
    simpa [List.getD, h1, h2] using this

set_option maxRecDepth 100000 in
set_option maxHeartbeats 6400000 in
theorem rsame_map (i i' : Int) (v2 v3 v2' v3' : Value) (Ak Ak' : Option Addr) (ck ck' : Nat) (ks ks' : List ByteArray) (Al Al' : Option Addr) (cl cl' : Nat) (l l' : List Tr) (IH : ∀ x ∈ l, RSameOK x) (w : World) (B B' : Nat) (hB : B ≤ w.heap.size) (hB' : B' ≤ w.heap.size) (hn : l.length ≤ 1048576) (hn' : l'.length ≤ 1048576)
    (hk : Keys w B Ak ks) (hk' : Keys w B' Ak' ks') (hkl : ks.length ≤ 1048576) (hkl' : ks'.length ≤ 1048576)
    (h : 0 < l.length → ∃ g o, Al = some ⟨g, o, none⟩ ∧ g < B ∧ HasL w B g o l) (h' : 0 < l'.length → ∃ g o, Al' = some ⟨g, o, none⟩ ∧ g < B' ∧ HasL w B' g o l') :
    Calls Tryd.prog 9 #[.agg #[.int .i64 7, .int .i64 i, v2, v3, .slice Ak ks.length ck, .slice Al l.length cl], .agg #[.int .i64 7, .int .i64 i', v2', v3', .slice Ak' ks'.length ck', .slice Al' l'.length cl']] w fun e w' => e = .returned (.bool (decide (ks = ks') && sameL l l')) ∧ Still w w' := by
  obtain ⟨m, hm⟩ : ∃ m, m = l.length := ⟨_, rfl⟩
  obtain ⟨m', hm'⟩ : ∃ m, m = l'.length := ⟨_, rfl⟩
  rw [← hm] at h hn ⊢
  rw [← hm'] at h' hn' ⊢
  by_cases hkn : ks.length = ks'.length
  · have KALL := Lib.hid (keys_all hkn)
    have hat := hk.2
    have hat' := hk'.2
    obtain ⟨nk, hnk⟩ : ∃ m, m = ks.length := ⟨_, rfl⟩
    have hnk' : nk = ks'.length := by omega
    rw [← hnk'] at hat' ⊢
    rw [← hnk] at KALL hat hkl ⊢
    obtain ⟨wA, hA, sA, b1, b2⟩ := two_boxes w #[.int .i64 7, .int .i64 i, v2, v3, .slice Ak nk ck, .slice Al m cl] #[.int .i64 7, .int .i64 i', v2', v3', .slice Ak' nk ck', .slice Al' m' cl']
    obtain ⟨g0, hg0⟩ : ∃ g0, g0 = w.heap.size := ⟨_, rfl⟩
    have HG0 := Lib.hid hg0
    rw [← hg0] at b1 b2
    have HM := Lib.hid hm
    have HM' := Lib.hid hm'
    have HH := Lib.hid h
    have HH' := Lib.hid h'
    have HBW := Lib.hid hB
    have HBW' := Lib.hid hB'
    have HA := Lib.hid hA
    have SA := Lib.hid sA
    have B1 := Lib.hid b1
    have B2 := Lib.hid b2
    have HAT := Lib.hid hat
    have HAT' := Lib.hid hat'
    have d3 : (nk : Int) ≤ 1048576 := by omega
    have d3m : (m : Int) ≤ 1048576 := by omega
    obtain ⟨kq, hkq⟩ : ∃ kq, kq = decide (ks = ks') := ⟨_, rfl⟩
    have HKQ := Lib.hid hkq
    rw [← hkq]
    clear hA sA b1 b2 hm hm' h h' hB hB' hn hn' hg0 hk hk' hkl hkl' hat hat' hnk hnk' hkn hkq
    go_enter Tryd.func9, Tryd.ntmps9
    go_upto_region 1 with fail
    rw [← HA.out, ← HG0.out]
    have k0 : wA.cell? ⟨g0, 0, none⟩ = some (.int .i64 7) := B1.out.cell 0
    have k0' : wA.cell? ⟨g0 + 1, 0, none⟩ = some (.int .i64 7) := B2.out.cell 0
    have k4 : wA.cell? ⟨g0, 4, none⟩ = some (.slice Ak nk ck) := B1.out.cell 4
    have k4' : wA.cell? ⟨g0 + 1, 4, none⟩ = some (.slice Ak' nk ck') := B2.out.cell 4
    go_wp2_with fail
    go_loopw [5] (fun iv wr => ∃ j : Nat, j ≤ nk ∧ iv = .int .i64 j ∧ Hid (Still w wr ∧ Blk wr g0 26 #[.int .i64 7, .int .i64 i, v2, v3, .slice Ak nk ck, .slice Al m cl] ∧ Blk wr (g0 + 1) 26 #[.int .i64 7, .int .i64 i', v2', v3', .slice Ak' nk ck', .slice Al' m' cl'] ∧ ∀ q, q < j → ks.getD q ByteArray.empty = ks'.getD q ByteArray.empty)) (fun iv _ => nk - (intOf iv).toNat)
    case atStart => exact ⟨0, by omega, rfl, SA.out, B1.out, B2.out, fun q hq => by omega⟩
    case round =>
      clear k0 k0' k4 k4'
      obtain ⟨j, hj, rfl, hin⟩ := hrel
      have k4 : wr.cell? ⟨g0, 4, none⟩ = some (.slice Ak nk ck) := hin.out.2.1.cell 4
      have k4' : wr.cell? ⟨g0 + 1, 4, none⟩ = some (.slice Ak' nk ck') := hin.out.2.2.1.cell 4
      by_cases hlt : j < nk
      · obtain ⟨gk, ok, rfl, hgk, hc⟩ := HAT.out (by omega)
        obtain ⟨gk', ok', rfl, hgk', hc'⟩ := HAT'.out (by omega)
        obtain ⟨a, ha⟩ : ∃ a, a = ks.getD j ByteArray.empty := ⟨_, rfl⟩
        obtain ⟨b, hb⟩ : ∃ b, b = ks'.getD j ByteArray.empty := ⟨_, rfl⟩
        have ca : wr.cell? ⟨gk, ok + j, none⟩ = some (.string a) := (hin.out.1.cell (p := ⟨gk, ok + j, none⟩) (by have := HBW.out; simp only; omega)).trans (by rw [hc j hlt, ha])
        have cb : wr.cell? ⟨gk', ok' + j, none⟩ = some (.string b) := (hin.out.1.cell (p := ⟨gk', ok' + j, none⟩) (by have := HBW'.out; simp only; omega)).trans (by rw [hc' j hlt, hb])
        have d1 : (j : Int) < (nk : Int) := by omega
        have d2 : (0 : Int) ≤ (j : Int) := by omega
        obtain ⟨q, hq⟩ : ∃ q, q = (a.toList == b.toList) := ⟨_, rfl⟩
        have hq' := hq.symm
        have hq2 : (a.toList != b.toList) = !q := by rw [hq]; rfl
        have HQ := Lib.hid (show q = decide (a = b) by rw [hq, Bool.eq_iff_iff]; simp [text_iff])
        have HAJ := Lib.hid ha
        have HBJ := Lib.hid hb
        have HLT := Lib.hid hlt
        clear ha hb hq hc hc' hgk hgk' hlt hj
        cases q
        · have hkf : kq = false := by
            rw [HKQ.out, decide_eq_false_iff_not]
            intro e
            have := (KALL.out.1 e) j HLT.out
            rw [← HAJ.out, ← HBJ.out] at this
            have h2 := HQ.out
            rw [decide_eq_true this] at h2
            cases h2
          have HKF := Lib.hid hkf
          clear hkf
          go_wp2_with fail
          go_quiet (fail)
          go_wp2_with fail
          (try simp only [Exit.inBlock, Exit.then])
          go_ret
          rw [HKF.out]
          exact ⟨rfl, still_drewN hin.out.1 _⟩
        · have hab : a = b := of_decide_eq_true HQ.out.symm
          have HAB := Lib.hid hab
          clear hab
          go_wp2_with fail
          go_quiet (fail)
          go_wp2_with fail
          go_roundw
          case rel =>
            refine ⟨j + 1, by have := HLT.out; omega, by go_num, Lib.hid ⟨still_drewN hin.out.1 _, hin.out.2.1.still (still_drewN (Still.refl wr) _), hin.out.2.2.1.still (still_drewN (Still.refl wr) _), fun q hq => ?_⟩⟩
            by_cases hqj : q = j
            · rw [hqj, ← HAJ.out, ← HBJ.out]; exact HAB.out
            · exact hin.out.2.2.2 q (by omega)
          case measure => simp [intOf]; have := HLT.out; omega
      · obtain rfl : j = nk := by omega
        have hkt : kq = true := by rw [HKQ.out, decide_eq_true_eq]; exact KALL.out.2 hin.out.2.2.2
        obtain rfl := hkt
        have d1 : ¬ (j : Int) < (j : Int) := by omega
        obtain ⟨w8, hw8⟩ : ∃ w8, w8 = wr := ⟨_, rfl⟩
        rw [← hw8] at hin k4 k4' ⊢
        have S8 := Lib.hid hin.out.1
        have X8 := Lib.hid hin.out.2.1
        have Y8 := Lib.hid hin.out.2.2.1
        have k0 : w8.cell? ⟨g0, 0, none⟩ = some (.int .i64 7) := X8.out.cell 0
        have k0' : w8.cell? ⟨g0 + 1, 0, none⟩ = some (.int .i64 7) := Y8.out.cell 0
        have k5 : w8.cell? ⟨g0, 5, none⟩ = some (.slice Al m cl) := X8.out.cell 5
        have k5' : w8.cell? ⟨g0 + 1, 5, none⟩ = some (.slice Al' m' cl') := Y8.out.cell 5
        clear hlt hj hin hw8 KALL HKQ B1 B2 SA HAT HAT'
        obtain ⟨j0, hj0⟩ : ∃ x, x = j := ⟨_, rfl⟩
        rw [← hj0] at X8 Y8
        clear hj0
        by_cases hlen : m = m'
        · subst hlen
          go_wp2_with fail
          go_loopw [6] (fun iv wr => ∃ j : Nat, j ≤ m ∧ iv = .int .i64 j ∧ Hid (Still w wr ∧ Blk wr g0 26 #[.int .i64 7, .int .i64 i, v2, v3, .slice Ak j0 ck, .slice Al m cl] ∧ Blk wr (g0 + 1) 26 #[.int .i64 7, .int .i64 i', v2', v3', .slice Ak' j0 ck', .slice Al' m cl'] ∧ sameL l l' = sameL (l.drop j) (l'.drop j))) (fun iv _ => m - (intOf iv).toNat)
          case atStart => exact ⟨0, by omega, rfl, S8.out, X8.out, Y8.out, rfl⟩
          case round =>
            obtain ⟨j, hj, rfl, hin⟩ := hrel
            have k5 : wr.cell? ⟨g0, 5, none⟩ = some (.slice Al m cl) := hin.out.2.1.cell 5
            have k5' : wr.cell? ⟨g0 + 1, 5, none⟩ = some (.slice Al' m cl') := hin.out.2.2.1.cell 5
            by_cases hlt : j < m
            · obtain ⟨gl, ol, rfl, hgl, hh⟩ := HH.out (by omega)
              obtain ⟨gl', ol', rfl, hgl', hh'⟩ := HH'.out (by omega)
              obtain ⟨x, hx⟩ : ∃ x, l[j]? = some x := ⟨_, List.getElem?_eq_getElem (by rw [← HM.out]; exact hlt)⟩
              obtain ⟨x', hx'⟩ : ∃ x, l'[j]? = some x := ⟨_, List.getElem?_eq_getElem (by rw [← HM'.out]; exact hlt)⟩
              obtain ⟨⟨lx⟩, hvx, hzx, hcx⟩ := HasL.at l ol (HasL.below (Below.mono hin.out.1 HBW.out) gl hgl ol l hh) j x hx
              obtain ⟨⟨lx'⟩, hvx', hzx', hcx'⟩ := HasL.at l' ol' (HasL.below (Below.mono hin.out.1 HBW'.out) gl' hgl' ol' l' hh') j x' hx'
              have d1 : (j : Int) < (m : Int) := by omega
              have d2 : (0 : Int) ≤ (j : Int) := by omega
              have hsx : sameL (l.drop j) (l'.drop j) = (sameT x x' && sameL (l.drop (j + 1)) (l'.drop (j + 1))) := by
                rw [drop_at l j x hx, drop_at l' j x' hx', sameL]
              have LX := Lib.hid (show lx.length = 6 by simpa using hzx)
              have LX' := Lib.hid (show lx'.length = 6 by simpa using hzx')
              have rng : wr.rangeAt gl (ol + j * 6) lx := fun q v hq => by
                have := hcx q v (by simpa using hq)
                rwa [show ol + 6 * j + q = ol + j * 6 + q by omega] at this
              have rng' : wr.rangeAt gl' (ol' + j * 6) lx' := fun q v hq => by
                have := hcx' q v (by simpa using hq)
                rwa [show ol' + 6 * j + q = ol' + j * 6 + q by omega] at this
              have hz0 := hin.out.1.size
              have SOK := Lib.hid (show ∀ W, Still wr W → W.cell? ⟨g0, 5, none⟩ = some (.slice (some ⟨gl, ol, none⟩) m cl) ∧ W.cell? ⟨g0 + 1, 5, none⟩ = some (.slice (some ⟨gl', ol', none⟩) m cl') ∧ W.rangeAt gl (ol + j * 6) lx ∧ W.rangeAt gl' (ol' + j * 6) lx' from fun W s =>
                ⟨(hin.out.2.1.still s).cell 5, (hin.out.2.2.1.still s).cell 5, fun q v hq => (s.cell (p := ⟨gl, ol + j * 6 + q, none⟩) (by have := HBW.out; simp only; omega)).trans (rng q v hq), fun q v hq => (s.cell (p := ⟨gl', ol' + j * 6 + q, none⟩) (by have := HBW'.out; simp only; omega)).trans (rng' q v hq)⟩)
              have CC0 := Lib.hid (show ∀ W, Still wr W → Calls Tryd.prog 9 #[.agg lx.toArray, .agg lx'.toArray] W fun e w' => e = .returned (.bool (sameT x x')) ∧ Still W w' from fun W s =>
                IH x (List.mem_of_getElem? hx) x' W B B' lx.toArray lx'.toArray (HasV.below (Below.mono s (Nat.le_trans HBW.out hz0)) _ _ hvx) (HasV.below (Below.mono s (Nat.le_trans HBW'.out hz0)) _ _ hvx') (Nat.le_trans (Nat.le_trans HBW.out hz0) s.size) (Nat.le_trans (Nat.le_trans HBW'.out hz0) s.size))
              have HSX := Lib.hid hsx
              have HLT := Lib.hid hlt
              generalize sameT x x' = q at CC0 HSX
              have CC := CC0
              clear CC0 hlt hx hx' hh hh' hgl hgl' hvx hvx' hzx hzx' hcx hcx' hsx rng rng' hz0
              cases q
              · skip
                go_upto_region 20 with fail
                refine wp_region_held_drew (S := fun W => W.cell? ⟨g0, 5, none⟩ = some (.slice (some ⟨gl, ol, none⟩) m cl) ∧ W.cell? ⟨g0 + 1, 5, none⟩ = some (.slice (some ⟨gl', ol', none⟩) m cl') ∧ W.rangeAt gl (ol + j * 6) lx ∧ W.rangeAt gl' (ol' + j * 6) lx') (by kernel_rfl) ?_ (fun hHeld => ?_)
                · exact SOK.out _ ((Still.refl wr).drew)
                try simp only [Act.put, List.setIfInBounds_toArray, List.set_cons_zero, List.set_cons_succ]
                refine wpAnyH_take (i := 0) (v := .pointer (some ⟨g0, 5, none⟩)) rfl (by kernel_rfl) (by kernel_rfl) (by kernel_rfl) (fun _ _ _ h => h) (Or.inl ⟨by kernel_rfl, fun w hS => by obtain ⟨h0, h1, h2, h3⟩ := hS; go_simp⟩) (by assumption) ?_
                simp only [Act.put, List.setIfInBounds_toArray, List.set_cons_zero, List.set_cons_succ]
                refine wpAnyH_take (i := 1) (v := .slice (some ⟨gl, ol, none⟩) m cl) rfl (by kernel_rfl) (by kernel_rfl) (by kernel_rfl) (fun _ _ _ h => h) (Or.inl ⟨by kernel_rfl, fun w hS => by obtain ⟨h0, h1, h2, h3⟩ := hS; go_simp⟩) (by assumption) ?_
                simp only [Act.put, List.setIfInBounds_toArray, List.set_cons_zero, List.set_cons_succ]
                refine wpAnyH_take (i := 2) (v := .int .i64 (j : Int)) rfl (by kernel_rfl) (by kernel_rfl) (by kernel_rfl) (fun _ _ _ h => h) (Or.inl ⟨by kernel_rfl, fun w hS => by obtain ⟨h0, h1, h2, h3⟩ := hS; go_simp⟩) (by assumption) ?_
                simp only [Act.put, List.setIfInBounds_toArray, List.set_cons_zero, List.set_cons_succ]
                refine wpAnyH_take (i := 3) (v := .pointer (some ⟨gl, ol + j * 6, none⟩)) rfl (by kernel_rfl) (by kernel_rfl) (by kernel_rfl) (fun _ _ _ h => h) (Or.inl ⟨by kernel_rfl, fun w hS => by obtain ⟨h0, h1, h2, h3⟩ := hS; go_simp⟩) (by assumption) ?_
                simp only [Act.put, List.setIfInBounds_toArray, List.set_cons_zero, List.set_cons_succ]
                refine wpAnyH_take (i := 4) (v := .agg lx.toArray) rfl (by kernel_rfl) (by kernel_rfl) (by kernel_rfl) (fun _ _ _ h => h) ?hy4 (by assumption) ?_
                case hy4 =>
                  refine yieldsIf_load_mid ?hw4 26 (.tmp 100) ?ho4 gl (ol + j * 6) ?hx4 lx _ (fun w h => h.2.2.1) (Tryd.underlying26) ?hd4 (by rw [sizeValue, LX.out])
                  case hw4 => kernel_rfl
                  case ho4 => rfl
                  case hx4 => kernel_rfl
                  case hd4 => rfl
                simp only [Act.put, List.setIfInBounds_toArray, List.set_cons_zero, List.set_cons_succ]
                refine wpAnyH_take (i := 5) (v := .pointer (some ⟨g0 + 1, 5, none⟩)) rfl (by kernel_rfl) (by kernel_rfl) (by kernel_rfl) (fun _ _ _ h => h) (Or.inl ⟨by kernel_rfl, fun w hS => by obtain ⟨h0, h1, h2, h3⟩ := hS; go_simp⟩) (by assumption) ?_
                simp only [Act.put, List.setIfInBounds_toArray, List.set_cons_zero, List.set_cons_succ]
                refine wpAnyH_take (i := 6) (v := .slice (some ⟨gl', ol', none⟩) m cl') rfl (by kernel_rfl) (by kernel_rfl) (by kernel_rfl) (fun _ _ _ h => h) (Or.inl ⟨by kernel_rfl, fun w hS => by obtain ⟨h0, h1, h2, h3⟩ := hS; go_simp⟩) (by assumption) ?_
                simp only [Act.put, List.setIfInBounds_toArray, List.set_cons_zero, List.set_cons_succ]
                refine wpAnyH_take (i := 7) (v := .int .i64 (j : Int)) rfl (by kernel_rfl) (by kernel_rfl) (by kernel_rfl) (fun _ _ _ h => h) (Or.inl ⟨by kernel_rfl, fun w hS => by obtain ⟨h0, h1, h2, h3⟩ := hS; go_simp⟩) (by assumption) ?_
                simp only [Act.put, List.setIfInBounds_toArray, List.set_cons_zero, List.set_cons_succ]
                refine wpAnyH_take (i := 8) (v := .pointer (some ⟨gl', ol' + j * 6, none⟩)) rfl (by kernel_rfl) (by kernel_rfl) (by kernel_rfl) (fun _ _ _ h => h) (Or.inl ⟨by kernel_rfl, fun w hS => by obtain ⟨h0, h1, h2, h3⟩ := hS; go_simp⟩) (by assumption) ?_
                simp only [Act.put, List.setIfInBounds_toArray, List.set_cons_zero, List.set_cons_succ]
                refine wpAnyH_take (i := 9) (v := .agg lx'.toArray) rfl (by kernel_rfl) (by kernel_rfl) (by kernel_rfl) (fun _ _ _ h => h) ?hy9 (by assumption) ?_
                case hy9 =>
                  refine yieldsIf_load_mid ?hw9 26 (.tmp 105) ?ho9 gl' (ol' + j * 6) ?hx9 lx' _ (fun w h => h.2.2.2) (Tryd.underlying26) ?hd9 (by rw [sizeValue, LX'.out])
                  case hw9 => kernel_rfl
                  case ho9 => rfl
                  case hx9 => kernel_rfl
                  case hd9 => rfl
                simp only [Act.put, List.setIfInBounds_toArray, List.set_cons_zero, List.set_cons_succ]
                refine wpAnyH_ready (rs := [10]) (by kernel_rfl) (by simp) ?_
                refine AllReadyH.cons (o := ⟨some 107, .call { callee := .value (.func 9), args := #[.tmp 101, .tmp 106], argTypes := #[26, 26] }, _, _, _, none⟩) rfl (fun K hK => ?_) AllReadyH.nil
                go_simp
                go_wp2_with (go_at_call 9; refine (CC.out _ ((Still.refl wr).drew)).mono ?_; rintro e w1 ⟨rfl, s1⟩; have t1 : Still wr w1 := Still.trans ((Still.refl wr).drew) s1)
                refine hK.out _ _ (SOK.out _ t1) (fun hHeld => ?_)
                clear hK K
                try simp only [Act.put, List.setIfInBounds_toArray, List.set_cons_zero, List.set_cons_succ]
                refine wpAnyH_take (i := 11) (oi := ⟨some 108, .unOp .not 4 (.tmp 107), _, _, _, none⟩) (v := .bool true) rfl (by kernel_rfl) (by kernel_rfl) (by kernel_rfl) (fun _ _ _ h => h) (Or.inl ⟨by kernel_rfl, fun w hS => by obtain ⟨h0, h1, h2, h3⟩ := hS; go_simp⟩) (by assumption) ?_
                simp only [Act.put, List.setIfInBounds_toArray, List.set_cons_zero, List.set_cons_succ]
                refine wpAnyH_done (by kernel_rfl) ?_ _
                have S1 := Lib.hid (Still.trans hin.out.1 t1)
                have BX := Lib.hid (hin.out.2.1.still t1)
                have BX' := Lib.hid (hin.out.2.2.1.still t1)
                have Q := Lib.hid (show sameL l l' = false by rw [hin.out.2.2.2, HSX.out]; simp)
                go_wp2_with fail
                (try simp only [Exit.inBlock, Exit.then])
                go_ret
                rw [Q.out]
                exact ⟨by simp, S1.out⟩
              · skip
                go_upto_region 20 with fail
                refine wp_region_held_drew (S := fun W => W.cell? ⟨g0, 5, none⟩ = some (.slice (some ⟨gl, ol, none⟩) m cl) ∧ W.cell? ⟨g0 + 1, 5, none⟩ = some (.slice (some ⟨gl', ol', none⟩) m cl') ∧ W.rangeAt gl (ol + j * 6) lx ∧ W.rangeAt gl' (ol' + j * 6) lx') (by kernel_rfl) ?_ (fun hHeld => ?_)
                · exact SOK.out _ ((Still.refl wr).drew)
                try simp only [Act.put, List.setIfInBounds_toArray, List.set_cons_zero, List.set_cons_succ]
                refine wpAnyH_take (i := 0) (v := .pointer (some ⟨g0, 5, none⟩)) rfl (by kernel_rfl) (by kernel_rfl) (by kernel_rfl) (fun _ _ _ h => h) (Or.inl ⟨by kernel_rfl, fun w hS => by obtain ⟨h0, h1, h2, h3⟩ := hS; go_simp⟩) (by assumption) ?_
                simp only [Act.put, List.setIfInBounds_toArray, List.set_cons_zero, List.set_cons_succ]
                refine wpAnyH_take (i := 1) (v := .slice (some ⟨gl, ol, none⟩) m cl) rfl (by kernel_rfl) (by kernel_rfl) (by kernel_rfl) (fun _ _ _ h => h) (Or.inl ⟨by kernel_rfl, fun w hS => by obtain ⟨h0, h1, h2, h3⟩ := hS; go_simp⟩) (by assumption) ?_
                simp only [Act.put, List.setIfInBounds_toArray, List.set_cons_zero, List.set_cons_succ]
                refine wpAnyH_take (i := 2) (v := .int .i64 (j : Int)) rfl (by kernel_rfl) (by kernel_rfl) (by kernel_rfl) (fun _ _ _ h => h) (Or.inl ⟨by kernel_rfl, fun w hS => by obtain ⟨h0, h1, h2, h3⟩ := hS; go_simp⟩) (by assumption) ?_
                simp only [Act.put, List.setIfInBounds_toArray, List.set_cons_zero, List.set_cons_succ]
                refine wpAnyH_take (i := 3) (v := .pointer (some ⟨gl, ol + j * 6, none⟩)) rfl (by kernel_rfl) (by kernel_rfl) (by kernel_rfl) (fun _ _ _ h => h) (Or.inl ⟨by kernel_rfl, fun w hS => by obtain ⟨h0, h1, h2, h3⟩ := hS; go_simp⟩) (by assumption) ?_
                simp only [Act.put, List.setIfInBounds_toArray, List.set_cons_zero, List.set_cons_succ]
                refine wpAnyH_take (i := 4) (v := .agg lx.toArray) rfl (by kernel_rfl) (by kernel_rfl) (by kernel_rfl) (fun _ _ _ h => h) ?hy4 (by assumption) ?_
                case hy4 =>
                  refine yieldsIf_load_mid ?hw4 26 (.tmp 100) ?ho4 gl (ol + j * 6) ?hx4 lx _ (fun w h => h.2.2.1) (Tryd.underlying26) ?hd4 (by rw [sizeValue, LX.out])
                  case hw4 => kernel_rfl
                  case ho4 => rfl
                  case hx4 => kernel_rfl
                  case hd4 => rfl
                simp only [Act.put, List.setIfInBounds_toArray, List.set_cons_zero, List.set_cons_succ]
                refine wpAnyH_take (i := 5) (v := .pointer (some ⟨g0 + 1, 5, none⟩)) rfl (by kernel_rfl) (by kernel_rfl) (by kernel_rfl) (fun _ _ _ h => h) (Or.inl ⟨by kernel_rfl, fun w hS => by obtain ⟨h0, h1, h2, h3⟩ := hS; go_simp⟩) (by assumption) ?_
                simp only [Act.put, List.setIfInBounds_toArray, List.set_cons_zero, List.set_cons_succ]
                refine wpAnyH_take (i := 6) (v := .slice (some ⟨gl', ol', none⟩) m cl') rfl (by kernel_rfl) (by kernel_rfl) (by kernel_rfl) (fun _ _ _ h => h) (Or.inl ⟨by kernel_rfl, fun w hS => by obtain ⟨h0, h1, h2, h3⟩ := hS; go_simp⟩) (by assumption) ?_
                simp only [Act.put, List.setIfInBounds_toArray, List.set_cons_zero, List.set_cons_succ]
                refine wpAnyH_take (i := 7) (v := .int .i64 (j : Int)) rfl (by kernel_rfl) (by kernel_rfl) (by kernel_rfl) (fun _ _ _ h => h) (Or.inl ⟨by kernel_rfl, fun w hS => by obtain ⟨h0, h1, h2, h3⟩ := hS; go_simp⟩) (by assumption) ?_
                simp only [Act.put, List.setIfInBounds_toArray, List.set_cons_zero, List.set_cons_succ]
                refine wpAnyH_take (i := 8) (v := .pointer (some ⟨gl', ol' + j * 6, none⟩)) rfl (by kernel_rfl) (by kernel_rfl) (by kernel_rfl) (fun _ _ _ h => h) (Or.inl ⟨by kernel_rfl, fun w hS => by obtain ⟨h0, h1, h2, h3⟩ := hS; go_simp⟩) (by assumption) ?_
                simp only [Act.put, List.setIfInBounds_toArray, List.set_cons_zero, List.set_cons_succ]
                refine wpAnyH_take (i := 9) (v := .agg lx'.toArray) rfl (by kernel_rfl) (by kernel_rfl) (by kernel_rfl) (fun _ _ _ h => h) ?hy9 (by assumption) ?_
                case hy9 =>
                  refine yieldsIf_load_mid ?hw9 26 (.tmp 105) ?ho9 gl' (ol' + j * 6) ?hx9 lx' _ (fun w h => h.2.2.2) (Tryd.underlying26) ?hd9 (by rw [sizeValue, LX'.out])
                  case hw9 => kernel_rfl
                  case ho9 => rfl
                  case hx9 => kernel_rfl
                  case hd9 => rfl
                simp only [Act.put, List.setIfInBounds_toArray, List.set_cons_zero, List.set_cons_succ]
                refine wpAnyH_ready (rs := [10]) (by kernel_rfl) (by simp) ?_
                refine AllReadyH.cons (o := ⟨some 107, .call { callee := .value (.func 9), args := #[.tmp 101, .tmp 106], argTypes := #[26, 26] }, _, _, _, none⟩) rfl (fun K hK => ?_) AllReadyH.nil
                go_simp
                go_wp2_with (go_at_call 9; refine (CC.out _ ((Still.refl wr).drew)).mono ?_; rintro e w1 ⟨rfl, s1⟩; have t1 : Still wr w1 := Still.trans ((Still.refl wr).drew) s1)
                refine hK.out _ _ (SOK.out _ t1) (fun hHeld => ?_)
                clear hK K
                try simp only [Act.put, List.setIfInBounds_toArray, List.set_cons_zero, List.set_cons_succ]
                refine wpAnyH_take (i := 11) (oi := ⟨some 108, .unOp .not 4 (.tmp 107), _, _, _, none⟩) (v := .bool false) rfl (by kernel_rfl) (by kernel_rfl) (by kernel_rfl) (fun _ _ _ h => h) (Or.inl ⟨by kernel_rfl, fun w hS => by obtain ⟨h0, h1, h2, h3⟩ := hS; go_simp⟩) (by assumption) ?_
                simp only [Act.put, List.setIfInBounds_toArray, List.set_cons_zero, List.set_cons_succ]
                refine wpAnyH_done (by kernel_rfl) ?_ _
                have S1 := Lib.hid (Still.trans hin.out.1 t1)
                have BX := Lib.hid (hin.out.2.1.still t1)
                have BX' := Lib.hid (hin.out.2.2.1.still t1)
                have Q := Lib.hid (show sameL l l' = sameL (l.drop (j + 1)) (l'.drop (j + 1)) by rw [hin.out.2.2.2, HSX.out]; simp)
                clear t1
                go_wp2_with fail
                go_roundw
                case rel => exact ⟨j + 1, by have := HLT.out; omega, by go_num, S1.out, BX.out, BX'.out, Q.out⟩
                case measure => simp [intOf]; have := HLT.out; omega
            · obtain rfl : j = m := by omega
              have hend : sameL l l' = true := by
                rw [hin.out.2.2.2, List.drop_of_length_le (by rw [HM.out]; omega), List.drop_of_length_le (by rw [HM'.out]; omega)]
                unfold sameL
                rfl
              have HE := Lib.hid hend
              have d1 : ¬ (j : Int) < (j : Int) := by omega
              clear hend hlt
              go_wp2_with fail
              go_ret
              rw [HE.out]
              exact ⟨by simp, hin.out.1⟩
        · have d : ((m : Int) != (m' : Int)) = true := by simp; omega
          have HS := Lib.hid (show sameL l l' = false from sameL_len l l' (by rw [← HM.out, ← HM'.out]; exact hlen))
          clear hlen
          go_wp2_with fail
          (try simp only [Exit.inBlock, Exit.then])
          go_ret
          rw [HS.out]
          exact ⟨by simp, S8.out⟩
  · have hs : (decide (ks = ks') && sameL l l') = false := by
      rw [show decide (ks = ks') = false by rw [decide_eq_false_iff_not]; intro e; exact hkn (by rw [e])]
      rfl
    rw [hs]
    obtain ⟨nk, hnk⟩ : ∃ m, m = ks.length := ⟨_, rfl⟩
    obtain ⟨nk', hnk'⟩ : ∃ m', m' = ks'.length := ⟨_, rfl⟩
    rw [← hnk, ← hnk'] at hkn ⊢
    have d : ((nk : Int) != (nk' : Int)) = true := by simp; omega
    have ST := Lib.hid (show Still w ((w.alloc (.cells #[.int .i64 7, .int .i64 i, v2, v3, .slice Ak nk ck, .slice Al m cl] 26)).alloc (.cells #[.int .i64 7, .int .i64 i', v2', v3', .slice Ak' nk' ck', .slice Al' m' cl'] 26)) from ((Still.refl w).alloc (Nat.le_refl _) _).alloc (by simp) _)
    clear hm hm' hnk hnk' hkn h h' hn hn' hs hk hk' hkl hkl'
    go_enter Tryd.func9, Tryd.ntmps9
    go_wp2_with fail
    (try simp only [Exit.inBlock, Exit.then])
    go_ret
    exact ⟨rfl, ST.out⟩

/-- The document's own 'Same' of each value, with whatever other. -/
theorem rsameOK : ∀ (x : Tr), RSameOK x
  | .mk k i b t ks l => by
    intro y w B B' cs cs' h h' hB hB'
    obtain ⟨k', i', b', t', ks', l'⟩ := y
    unfold HasV at h h'
    obtain ⟨A, n, c, Ak, ck, Al, cl, rfl, hkb, hib, ⟨hr, hn, hA⟩, ht, ⟨hkeys, hkl⟩, hll, hL⟩ := h
    obtain ⟨A', n', c', Ak', ck', Al', cl', rfl, hkb', hib', ⟨hr', hn', hA'⟩, ht', ⟨hkeys', hkl'⟩, hll', hL'⟩ := h'
    have IH : ∀ x ∈ l, RSameOK x := fun x hx => rsameOK x
    unfold sameT
    by_cases hk : k = k'
    · subst hk
      by_cases h4 : k = 4
      · subst h4
        rw [show decide ((4 : Int) = 4) = true by rfl, Bool.true_and, if_neg (by decide), if_pos rfl]
        exact rsame_bytes i i' A A' n n' c c' b b' t t' _ _ _ _ w B B' hr hr' hB hB' hn hn'
      by_cases h6 : k = 6
      · subst h6
        rw [show decide ((6 : Int) = 6) = true by rfl, Bool.true_and, if_neg (by decide), if_neg (by decide), if_neg (by decide), if_pos rfl]
        exact rsame_list i i' _ _ _ _ _ _ Al Al' cl cl' l l' IH w B B' hB hB' hll hll' hL hL'
      by_cases h7 : k = 7
      · subst h7
        rw [show decide ((7 : Int) = 7) = true by rfl, Bool.true_and, if_neg (by decide), if_neg (by decide), if_neg (by decide), if_neg (by decide), if_pos rfl]
        exact rsame_map i i' _ _ _ _ Ak Ak' ck ck' ks ks' Al Al' cl cl' l l' IH w B B' hB hB' hll hll' hkeys hkeys' hkl hkl' hL hL'
      rw [if_neg h4, if_neg h6, if_neg h7]
      exact rsame_plain k k i i' _ _ t t' _ _ _ _ w (.inr ⟨rfl, h4, h6, h7⟩)
    · have e : ∀ r : Bool, (decide (k = k') && r) = false := fun r => by rw [show decide (k = k') = false by simpa using hk, Bool.false_and]
      rw [e]
      have P := rsame_plain k k' i i' (.slice A n c) (.slice A' n' c') t t' (.slice Ak ks.length ck) (.slice Ak' ks'.length ck') (.slice Al l.length cl) (.slice Al' l'.length cl') w (.inl hk)
      rw [e] at P
      exact P
end Go.Proofs.YtmjijajndeihaaaDoor
