/- Contracts and facts, several texts in one. It proves no statement. -/
import Derived.Test.YtfneloobfidckaaGreatDoorSf02
import Derived.Test.YtfneloobfidckaaGreatDoorSf00
import Derived.Test.YtfneloobfidckaaGreatDoorSf06
import Derived.Lib.AppendZerosOnto
import Derived.Great.Walk
import Derived.Test.YtfneloobfidckaaGreatDoorSf23
import Derived.Lib.SlBytesConst

/- slices.Concat of a few rows of bytes. It proves no statement. -/





namespace Go.Proofs.YtfneloobfidckaaGreatDoor
open Go.RowKit
set_option linter.unusedVariables false
set_option linter.unusedSimpArgs false

theorem run_grow (w : World) (ty : TypeId) (k : Nat) (h0 : 0 < k) (hk : k ≤ 1048576) :
    ∃ cap cur, (Builtin.append_ #[42, 3] ty #[.slice none 0 0, .int .i64 (k : Int)]).run Tryz.prog w = .ok (.slice (some ⟨w.heap.size, 0, none⟩) k cap) (w.drew.alloc (.cells cur 5)) ∧ k ≤ cap ∧ cap ≤ maxLen ∧ cur.size = cap := by
  obtain ⟨i0, hi, hz0, hz1, hz2⟩ := info_parts Tryz.infoByte
  have h := Lib.run_append_grow_zeros (P := Tryz.prog) w 42 3 ty 5 i0 (.int .u8 0) .i64 .i64 Tryz.underlying42 Tryz.underlying3 hi hz0 none 0 0 [] (run_firstCells_none w.drew i0.size 0 0 0) k h0 (by rw [hz1]; decide) (by omega) (by omega) (by rw [hz2]; omega) (by
    rw [hz2, Nat.zero_add, nextslicecap_zero h0]; omega)
  rw [Nat.zero_add] at h
  have hg := grownCap_ge w k 0 5
  have hl := grownCap_le_maxLen w k 0 5 (by unfold maxLen; omega)
  refine ⟨_, _, h, hg, hl, ?_⟩
  simp only [List.toArray, Array.size_append, size_zeroCells, Value.cells]
  simp
  omega
set_option maxRecDepth 100000 in
set_option maxHeartbeats 1600000 in
theorem grow_any (k : Nat) (w : World) (h0 : 0 < k) (hk : k ≤ 1048576) :
    Calls Tryz.prog 194 #[.slice none 0 0, .int .i64 (k : Int)] w fun e w' => (∃ v, e = .returned v ∧ w'.ownsRow w.heap.size 5 1 v 0 []) ∧ Still w w' := by
  obtain ⟨cap, cur, hrun, h1, h2, h3⟩ := run_grow w 42 k h0 hk
  have d1 : ¬ ((k : Int) < 0) := by omega
  have d2 : (0 : Int) < (k : Int) := by omega
  have d3 : IntKind.i64.wrap (k : Int) = (k : Int) := by rw [IntKind.wrap_i64]; omega
  have d4 : (0 : Int) ≤ (cap : Int) := by omega
  have d5 : 0 < k := h0
  have HR := Lib.hid hrun
  have FIN := Lib.hid (show (w.drew.alloc (.cells cur 5)).ownsRow w.heap.size 5 1 (.slice (some ⟨w.heap.size, 0, none⟩) 0 cap) 0 [] ∧ Still w (w.drew.alloc (.cells cur 5)) from
    ⟨⟨rfl, .inr ⟨w.heap.size, cap, cur, rfl, Nat.le_refl _, by rw [show w.heap.size = w.drew.heap.size from rfl]; exact heap_alloc_new _ _, Nat.zero_le _, h2, by omega, by simp⟩⟩, ((Still.refl w).drew).alloc (Nat.le_refl _) _⟩)
  clear hrun h1 h2 h3 h0 hk
  go_enter Tryz.func194, Tryz.ntmps194
  go_wp2_with (guard_target =~ wpList _ _ _ (Oper.mk (some 22) _ _ _ _ _ :: _) _ _; go_must (refine Go.Great.wpList_runTo rfl (some 22) rfl (.slice (some ⟨w.heap.size, 0, none⟩) k cap) (w.drew.alloc (.cells cur 5)) (by simp only [execOp, resolve, invoke, builtin, Sem.run_bind, Sem.run_pure, Result.andThen_ok, List.map_toArray, List.map_cons, List.map_nil]; change (Sem.run _ (Builtin.append_ _ _ #[.slice none 0 0, .int .i64 (k : Int)]) w).andThen _ = _; rw [HR.out]; rfl) ?_))
  go_ret
  exact ⟨⟨_, rfl, FIN.out.1⟩, FIN.out.2⟩
/-- Rows of bytes, side by side in a block. -/
def PartsIn (w : World) (B gp : Nat) (ls : List (List UInt8)) : Prop := gp < B ∧ ∀ i, i < ls.length → ∃ A n c, w.cell? ⟨gp, i, none⟩ = some (.slice A n c) ∧ Reads w B A n (ls.getD i []) ∧ (A = none → c = 0)
theorem PartsIn.still {w w' : World} {B gp : Nat} {ls : List (List UInt8)} (h : PartsIn w B gp ls) (hB : B ≤ w.heap.size) (s : Still w w') : PartsIn w' B gp ls :=
  ⟨h.1, fun i hi => by
    obtain ⟨A, n, c, h1, h2, h3⟩ := h.2 i hi
    exact ⟨A, n, c, (s.cell (p := ⟨gp, i, none⟩) (Nat.lt_of_lt_of_le h.1 hB)).trans h1, h2.still hB s, h3⟩⟩
theorem flat_step (ls : List (List UInt8)) (j : Nat) (h : j < ls.length) : (ls.take (j + 1)).flatten = (ls.take j).flatten ++ ls.getD j [] := by
  have e : ls.take (j + 1) = ls.take j ++ [ls[j]] := by rw [List.take_add_one, List.getElem?_eq_getElem h]; rfl
  rw [e, List.flatten_append]
  simp only [List.flatten_cons, List.flatten_nil, List.append_nil, List.getD, List.getElem?_eq_getElem h, Option.getD_some]
theorem flat_leF (ls : List (List UInt8)) (j : Nat) : (ls.take j).flatten.length ≤ ls.flatten.length := by
  have h := congrArg (fun q => (List.flatten q).length) (List.take_append_drop j ls)
  simp only [List.flatten_append, List.length_append] at h
  omega
set_option maxRecDepth 100000 in
set_option maxHeartbeats 1600000 in
theorem concat_any (gp c : Nat) (ls : List (List UInt8)) (w : World) (B : Nat) (hp : PartsIn w B gp ls) (hB : B ≤ w.heap.size) (hm : ls.length ≤ 16) (h0 : 0 < ls.flatten.length) (ht : ls.flatten.length ≤ 1048576) :
    Calls Tryz.prog 141 #[.slice (some ⟨gp, 0, none⟩) ls.length c] w fun e w' => (∃ v, e = .returned v ∧ w'.ownsRow w.heap.size 5 1 v ls.flatten.length (bytesV ls.flatten)) ∧ Still w w' := by
  obtain ⟨m, hmm⟩ : ∃ m, m = ls.length := ⟨_, rfl⟩
  rw [← hmm]
  have d1 : (m : Int) ≤ 16 := by omega
  obtain ⟨T, hT⟩ : ∃ T, T = ls.flatten.length := ⟨_, rfl⟩
  have GR := Lib.hid (grow_any T w (by omega) (by omega))
  have HP := Lib.hid hp
  have HB := Lib.hid hB
  have HT := Lib.hid hT
  have HTT := Lib.hid (show T ≤ 1048576 by omega)
  have HM := Lib.hid hmm
  clear hp hB hm h0 ht hT hmm
  go_enter Tryz.func141, Tryz.ntmps141
  go_wp2_with fail
  go_loopw [3, 11] (fun sv iv wr => ∃ j : Nat, j ≤ m ∧ iv = .int .i64 j ∧ wr = w ∧ sv = .int .i64 ((ls.take j).flatten.length : Nat)) (fun _ iv _ => m - (intOf iv).toNat)
  case atStart => exact ⟨0, by omega, rfl, rfl, by simp⟩
  case round =>
    obtain ⟨j, hj, rfl, hw, rfl⟩ := hrel
    have hw' := hw.symm
    subst hw'
    clear hw
    by_cases hlt : j < m
    · obtain ⟨A, n, cc, hc, hr, _⟩ := HP.out.2 j (by rw [← HM.out]; exact hlt)
      have hc0 : w.cell? ⟨gp, 0 + j, none⟩ = some (.slice A n cc) := by rw [Nat.zero_add]; exact hc
      have hs := congrArg List.length (flat_step ls j (by rw [← HM.out]; exact hlt))
      rw [List.length_append, hr.1] at hs
      have hle := flat_leF ls (j + 1)
      rw [← HT.out] at hle
      obtain ⟨s, hse⟩ : ∃ s, s = (ls.take j).flatten.length := ⟨_, rfl⟩
      rw [← hse] at hs ⊢
      have d2 : (j : Int) < (m : Int) := by omega
      have d3 : (0 : Int) ≤ (j : Int) := by omega
      have d4 : (s : Int) + (n : Int) ≤ 1048576 := by have := HTT.out; omega
      have d5 : (0 : Int) ≤ (s : Int) + (n : Int) := by omega
      have d6 : IntKind.i64.wrap ((s : Int) + (n : Int)) = ((s + n : Nat) : Int) := by rw [IntKind.wrap_i64]; omega
      have d7 : ¬ (((s + n : Nat) : Int) < 0) := by omega
      have HS := Lib.hid hs
      have HLT := Lib.hid hlt
      clear hse hs hle hlt hr
      go_wp2_with fail
      go_roundw
      case rel => exact ⟨j + 1, by have := HLT.out; omega, by go_num, by first | trivial | rfl, by have h := HS.out; first | omega | (go_num; done) | (rw [h]; rfl)⟩
      case measure => simp [intOf]; have := HLT.out; omega
    · obtain rfl : j = m := by omega
      have e : (ls.take j).flatten.length = T := by rw [HT.out, HM.out, List.take_length]
      rw [e]
      clear e hlt
      go_wp2_with fail
      refine GR.out.mono ?_
      rintro e w1 ⟨⟨v, rfl, own1⟩, s1⟩
      have OW := Lib.hid own1
      have S1 := Lib.hid s1
      clear own1 s1 GR
      go_wp2_with fail
      go_loopw [6, 27] (fun vv iv wr => ∃ i : Nat, i ≤ j ∧ iv = .int .i64 i ∧ Hid (wr.ownsRow w.heap.size 5 1 vv ((ls.take i).flatten.length) (bytesV (ls.take i).flatten) ∧ Still w wr)) (fun _ iv _ => j - (intOf iv).toNat)
      case atStart => exact ⟨0, by omega, rfl, by simpa [bytesV] using OW.out, S1.out⟩
      case round =>
        obtain ⟨i, hi, rfl, hin⟩ := hrel
        by_cases hlt : i < j
        · obtain ⟨A, n, cc, hc, hr, hA⟩ := (HP.out.still HB.out hin.out.2).2 i (by rw [← HM.out]; exact hlt)
          have hc0 : wr.cell? ⟨gp, 0 + i, none⟩ = some (.slice A n cc) := by rw [Nat.zero_add]; exact hc
          have hst := flat_step ls i (by rw [← HM.out]; exact hlt)
          have hle := flat_leF ls (i + 1)
          have hs := congrArg List.length hst
          rw [List.length_append, hr.1] at hs
          rw [← HT.out] at hle
          have d2 : (i : Int) < (j : Int) := by omega
          have d3 : (0 : Int) ≤ (i : Int) := by omega
          have HS := Lib.hid hs
          have HST := Lib.hid hst
          have HLE := Lib.hid (show (ls.take i).flatten.length + n ≤ 1048576 by have := HTT.out; omega)
          have HLT := Lib.hid hlt
          have HR := Lib.hid hr
          have HA := Lib.hid hA
          clear hst hs hle hlt hr hA hc0
          go_wp2_with (at_builtin; go_must (refine wpList_adds_at wr rfl (.tmp 31) (.tmp 32) rfl w.heap.size _ _ _ rfl hin.out.1 A n cc B _ rfl HR.out HA.out (by have := HLE.out; omega) hin.out.2.size ?_))
          intro v5 w5 own5 gr5 loc5
          have FIN := Lib.hid (show w5.ownsRow w.heap.size 5 1 v5 ((ls.take (i + 1)).flatten.length) (bytesV (ls.take (i + 1)).flatten) ∧ Still w w5 from
            ⟨by rw [HST.out, List.length_append, HR.out.1]; first | exact own5 | simpa using own5, hin.out.2.grown gr5 hin.out.2.size (fun k hk => (hin.out.1.lt k hk).1)⟩)
          clear own5 gr5 loc5
          go_wp2_with fail
          go_roundw
          case rel => exact ⟨i + 1, by have := HLT.out; omega, by go_num, FIN.out⟩
          case measure => simp [intOf]; have := HLT.out; omega
        · obtain rfl : i = j := by omega
          have FIN := Lib.hid (show wr.ownsRow w.heap.size 5 1 u6 T (bytesV ls.flatten) by have h := hin.out.1; rwa [HM.out, List.take_length, ← HT.out] at h)
          clear hlt
          go_wp2_with fail
          go_ret
          exact ⟨⟨_, rfl, by rw [← HT.out]; exact FIN.out⟩, hin.out.2⟩
end Go.Proofs.YtfneloobfidckaaGreatDoor

/- Contract: a new segment. It proves no statement. -/



namespace Go.Proofs.YtfneloobfidckaaGreatDoor
open Go.RowKit Go.Maps Go.WideMaps Go.Sort
set_option linter.unusedVariables false
set_option linter.unusedSimpArgs false

/-- What stands ahead of a segment's entries. -/
def magicL : List UInt8 := [72, 79, 65, 82, 68, 83, 69, 71]
/-- A new segment, by the medium's own calls. -/
def beginL (M : Me) (S : Lg) (b : List UInt8) (gf : Nat) : Int × Me × Lg :=
  if nextL S = 1048576 then (16, M, S)
  else if (opCreate M (nameS (nextL S)) gf).1 ≠ 0 then ((opCreate M (nameS (nextL S)) gf).1, (opCreate M (nameS (nextL S)) gf).2, S)
  else if (opAppend (opCreate M (nameS (nextL S)) gf).2 (nameS (nextL S)) (magicL ++ b)).1 = 11 then
    (if (opRemove (opAppend (opCreate M (nameS (nextL S)) gf).2 (nameS (nextL S)) (magicL ++ b)).2 (nameS (nextL S))).1 = 12 then 12 else 11, (opRemove (opAppend (opCreate M (nameS (nextL S)) gf).2 (nameS (nextL S)) (magicL ++ b)).2 (nameS (nextL S))).2, S)
  else if (opAppend (opCreate M (nameS (nextL S)) gf).2 (nameS (nextL S)) (magicL ++ b)).1 ≠ 0 then ((opAppend (opCreate M (nameS (nextL S)) gf).2 (nameS (nextL S)) (magicL ++ b)).1, (opAppend (opCreate M (nameS (nextL S)) gf).2 (nameS (nextL S)) (magicL ++ b)).2, S)
  else (0, (opAppend (opCreate M (nameS (nextL S)) gf).2 (nameS (nextL S)) (magicL ++ b)).2, S.grown (nextL S, 8 + b.length))
theorem own_formN2 {w : World} {base n z : Nat} {e : TypeId} {v : Value} {xs : List Value} (h : w.ownsRow base e z v n xs) : ∃ A c, v = .slice A n c := by
  rcases h.2 with ⟨h, h0⟩ | ⟨g, cp, cur, h, _⟩
  · exact ⟨none, 0, by rw [h, h0]⟩
  · exact ⟨_, cp, h⟩
theorem LLeft.chain {w w1 w2 : World} {base g gl : Nat} {own own1 : Own} {lo lo1 : LOwn} {M2 : Me} {S2 : Lg} (c1 : Chg w w1 (fun b => own b ≠ none ∨ lo b ≠ none)) (ho1 : ∀ b, b < w.heap.size → own1 b = own b ∧ lo1 b = lo b) (h2 : LLeft w1 w2 base g gl own1 lo1 M2 S2) : LLeft w w2 base g gl own lo M2 S2 := by
  obtain ⟨c2, own2, lo2, ho2, m2⟩ := h2
  exact ⟨c1.trans c2 (fun b hb hs => by rw [← (ho1 b hb).1, ← (ho1 b hb).2]; exact hs), own2, lo2, fun b hb => ⟨(ho2 b (Nat.lt_of_lt_of_le hb c1.size)).1.trans (ho1 b hb).1, (ho2 b (Nat.lt_of_lt_of_le hb c1.size)).2.trans (ho1 b hb).2⟩, m2⟩
theorem LLeft.of_still {w W w' : World} {base g gl : Nat} {own : Own} {lo : LOwn} {M' : Me} {S' : Lg} (s : Still w W) (h : LLeft W w' base g gl own lo M' S') : LLeft w w' base g gl own lo M' S' :=
  LLeft.chain (Chg.of_still s _) (fun _ _ => ⟨rfl, rfl⟩) h
/-- The magic and an entry's bytes, side by side. -/
theorem magic_parts {w : World} {P : Nat → Prop} {A : Option Addr} {m c : Nat} {b : List UInt8} (h : RowP w P A m c b) :
    PartsIn ((w.alloc (.cells #[.int .u8 72, .int .u8 79, .int .u8 65, .int .u8 82, .int .u8 68, .int .u8 83, .int .u8 69, .int .u8 71] 5 (8, 9))).alloc (.cells #[.slice (some ⟨w.heap.size, 0, none⟩) 8 8, .slice A m c] 42)) (w.heap.size + 2) (w.heap.size + 1) [magicL, b] := by
  obtain ⟨W1, hW1⟩ : ∃ W1, W1 = w.alloc (.cells #[.int .u8 72, .int .u8 79, .int .u8 65, .int .u8 82, .int .u8 68, .int .u8 83, .int .u8 69, .int .u8 71] 5 (8, 9)) := ⟨_, rfl⟩
  have hs1 : W1.heap.size = w.heap.size + 1 := by rw [hW1]; simp
  have b1 : W1.heap[w.heap.size]? = some (.cells #[.int .u8 72, .int .u8 79, .int .u8 65, .int .u8 82, .int .u8 68, .int .u8 83, .int .u8 69, .int .u8 71] 5 (8, 9)) := by rw [hW1]; exact heap_alloc_new _ _
  have st : Still w W1 := by rw [hW1]; exact (Still.refl w).alloc (Nat.le_refl _) _
  rw [← hW1]
  obtain ⟨W2, hW2⟩ : ∃ W2, W2 = W1.alloc (.cells #[.slice (some ⟨w.heap.size, 0, none⟩) 8 8, .slice A m c] 42) := ⟨_, rfl⟩
  have b2 : Blk W2 (w.heap.size + 1) 42 #[.slice (some ⟨w.heap.size, 0, none⟩) 8 8, .slice A m c] := by rw [hW2, ← hs1]; exact Blk.new _ _ _
  have st2 : Still W1 W2 := by rw [hW2]; exact (Still.refl W1).alloc (Nat.le_refl _) _
  have b3 := (st2.block w.heap.size (by omega)).trans b1
  have hs2 : W2.heap.size = w.heap.size + 2 := by rw [hW2]; simp [hs1]
  rw [← hW2]
  refine ⟨by omega, fun i hi => ?_⟩
  match i, hi with
  | 0, _ =>
    refine ⟨_, _, _, b2.cell 0, ⟨rfl, fun _ => ⟨w.heap.size, 0, rfl, by omega, fun j hj => ?_⟩⟩, fun e => by cases e⟩
    rw [Nat.zero_add, cell_of_row _ w.heap.size j _ _ (8, 9) b3]
    match j, hj with
    | 0, _ => rfl
    | 1, _ => rfl
    | 2, _ => rfl
    | 3, _ => rfl
    | 4, _ => rfl
    | 5, _ => rfl
    | 6, _ => rfl
    | 7, _ => rfl
    | q + 8, hq => omega
  | 1, _ =>
    have h2 := (h.still (Still.trans st st2)).reads
    rw [hs2] at h2
    exact ⟨_, _, _, b2.cell 1, h2, fun e => (h.nil e).2⟩
  | q + 2, hq => exact absurd hq (by simp)
theorem nextL_le {S : Lg} (h : S.ok) : nextL S ≤ 1048576 := by
  unfold nextL
  split
  · omega
  · rename_i p hp
    have := (h.num p (List.mem_of_getLast? hp)).1
    omega
theorem nameS_size (n : Int) : (nameS n).size ≤ 12 := by
  have : (nameS n).size = (nameS n).data.toList.length := Array.length_toList.symm
  rw [this, nameS_list]
  split
  · rw [sgnB_length]; exact Nat.le_refl _
  · exact Nat.zero_le _
set_option maxRecDepth 100000 in
set_option maxHeartbeats 6400000 in
theorem begin_any {w : World} {base g gl k : Nat} {own : Own} {lo : LOwn} {M : Me} {S : Lg} {P : Nat → Prop} {A : Option Addr} {m c : Nat} {b : List UInt8} (h : LM w base g gl own lo M S) (hok : S.ok) (hg : M.good k) (hk : k ≤ 800000) (T : SgT w) (hr : RowP w P A m c b) (hP : ∀ x, P x → own x = none ∧ lo x = none) (hm : m ≤ 17000) :
    Calls Tryz.prog 143 #[.pointer (some ⟨gl, 0, none⟩), .slice A m c] w fun e w' => ∃ gf, M.fs gf = none ∧ e = .returned (.int .i64 (beginL M S b gf).1) ∧ LLeft w w' base g gl own lo (beginL M S b gf).2.1 (beginL M S b gf).2.2 := by
  obtain ⟨sv, hl⟩ := h.log
  have NX := Lib.hid (next_any hl hok)
  have hfr := h.med.fresh
  have hn := nextL_le hok
  have L0 := Lib.hid (LLeft.same h)
  by_cases h16 : nextL S = 1048576
  · have E : ∀ gf, beginL M S b gf = (16, M, S) := fun gf => if_pos h16
    have LS := Lib.hid (fun W (s : Still w W) => LLeft.still h s)
    obtain ⟨gf, hgf⟩ : ∃ gf, M.fs gf = none := ⟨_, hfr⟩
    rw [h16] at NX
    clear h hl hok hg hr hP T hfr hn L0 h16
    go_enter Tryz.func143, Tryz.ntmps143
    go_wp2_with fail
    refine NX.out.mono ?_
    rintro e w1 ⟨rfl, i, rfl⟩
    have S1 := Lib.hid (still_drewN (Still.refl w) i)
    go_wp2_with fail
    go_ret
    exact ⟨gf, hgf, by rw [E]; rfl, by rw [E]; exact LS.out _ S1.out⟩
  obtain ⟨n, hnn⟩ : ∃ n, n = nextL S := ⟨_, rfl⟩
  have NM := Lib.hid (fun W (s : Still w W) => name_any (n : Int) W (T.still s))
  obtain ⟨nm, hnm⟩ : ∃ nm, nm = nameS (n : Int) := ⟨_, rfl⟩
  have hsz : nm.size ≤ maxLen := by rw [hnm]; have := nameS_size (n : Int); unfold maxLen; omega
  rw [← hnm] at NM
  have hne : ((n : Int) == 1048576) = false := by rw [beq_eq_false_iff_ne]; omega
  have E0 : ∀ gf, beginL M S b gf = (if (opCreate M nm gf).1 ≠ 0 then ((opCreate M nm gf).1, (opCreate M nm gf).2, S)
    else if (opAppend (opCreate M nm gf).2 nm (magicL ++ b)).1 = 11 then (if (opRemove (opAppend (opCreate M nm gf).2 nm (magicL ++ b)).2 nm).1 = 12 then 12 else 11, (opRemove (opAppend (opCreate M nm gf).2 nm (magicL ++ b)).2 nm).2, S)
    else if (opAppend (opCreate M nm gf).2 nm (magicL ++ b)).1 ≠ 0 then ((opAppend (opCreate M nm gf).2 nm (magicL ++ b)).1, (opAppend (opCreate M nm gf).2 nm (magicL ++ b)).2, S)
    else (0, (opAppend (opCreate M nm gf).2 nm (magicL ++ b)).2, S.grown (n, 8 + b.length))) := by
    intro gf
    unfold beginL
    rw [if_neg h16, ← hnn, ← hnm]
  rw [← hnn] at NX
  have CR := Lib.hid (fun W (s : Still w W) => create_M nm (h.med.still s) hg.ok (by have := hg.cnt; omega) hsz)
  have c0 : ∀ W, Still w W → W.cell? ⟨gl, 0, none⟩ = some (.pointer (some ⟨g, 0, none⟩)) := fun W s => (hl.blk.still s).cell 0
  have HG := Lib.hid hg
  have H := Lib.hid h
  have C0 := Lib.hid c0
  have HR := Lib.hid hr
  have HP := Lib.hid hP
  have OK := Lib.hid hok
  have HN := Lib.hid hn
  have HM := Lib.hid hm
  have HSZ := Lib.hid hsz
  clear h hl hok hg hr hP T hfr hn L0 h16 hnm hnn c0 hm hsz
  go_enter Tryz.func143, Tryz.ntmps143
  go_wp2_with fail
  refine NX.out.mono ?_
  rintro e w1 ⟨rfl, i, hw1⟩
  have S1 := Lib.hid (show Still w w1 from hw1 ▸ still_drewN (Still.refl w) i)
  clear hw1 NX
  go_wp2_with fail
  refine (NM.out w1 S1.out).mono ?_
  rintro e w2 ⟨rfl, s2⟩
  have S2 := Lib.hid (Still.trans S1.out s2)
  clear s2 NM S1
  have c0 := C0.out w2 S2.out
  go_wp2_with fail
  refine (CR.out w2 S2.out).mono ?_
  rintro e w3 ⟨gf, hgf, hlo, rfl, hleft⟩
  have E1 := E0 gf
  have GF := Lib.hid hgf
  obtain ⟨M1, hM1⟩ : ∃ M1, M1 = (opCreate M nm gf).2 := ⟨_, rfl⟩
  obtain ⟨e1, he1⟩ : ∃ e1, e1 = (opCreate M nm gf).1 := ⟨_, rfl⟩
  have G1 := Lib.hid (show M1.good (k + 1) from by rw [hM1]; exact opCreate_good HG.out nm gf)
  rw [← hM1, ← he1] at E1
  rw [← hM1] at hleft
  rw [← he1]
  have LL1 := Lib.hid (show LLeft w w3 base g gl own lo M1 S from by
    have h1 := LLeft.med (H.out.still S2.out) hleft
    obtain ⟨c, own', lo', ho, lm⟩ := h1
    exact ⟨(Chg.of_still S2.out _).trans c (fun b _ hb => hb), own', lo', fun b hb => ho b (Nat.lt_of_lt_of_le hb S2.out.size), lm⟩)
  clear hleft hlo hM1 he1 CR E0 hgf
  by_cases z1 : e1 = 0
  · subst z1
    rw [if_neg (by simp)] at E1
    obtain ⟨cA, own1, lo1, ho1, lm1⟩ := LL1.out
    have R3 : RowP w3 P A m c b := HR.out.chg cA (fun x hx _ hs => by
      have := HP.out x hx
      rcases hs with hs | hs
      · exact hs this.1
      · exact hs this.2)
    have hbm := R3.len
    have PI := magic_parts R3
    obtain ⟨W2, hW2⟩ : ∃ W2, W2 = (w3.alloc (.cells #[.int .u8 72, .int .u8 79, .int .u8 65, .int .u8 82, .int .u8 68, .int .u8 83, .int .u8 69, .int .u8 71] 5 (8, 9))).alloc (.cells #[.slice (some ⟨w3.heap.size, 0, none⟩) 8 8, .slice A m c] 42) := ⟨_, rfl⟩
    rw [← hW2] at PI
    have hs2 : W2.heap.size = w3.heap.size + 2 := by rw [hW2]; simp
    have SW := Lib.hid (show Still w3 W2 by rw [hW2]; exact ((Still.refl w3).alloc (Nat.le_refl _) _).alloc (by simp) _)
    have hfl : [magicL, b].flatten = magicL ++ b := by simp
    have hln : (magicL ++ b).length = 8 + m := by rw [List.length_append, hbm]; rfl
    have CC0 := concat_any (w3.heap.size + 1) 2 [magicL, b] W2 (w3.heap.size + 2) PI (by omega) (by simp) (by rw [hfl, hln]; omega) (by rw [hfl, hln]; have := HM.out; omega)
    rw [show [magicL, b].length = 2 from rfl, hfl, hln] at CC0
    have CC := Lib.hid CC0
    have HW2 := Lib.hid hW2
    have HL8 := Lib.hid hln
    have HBM := Lib.hid hbm
    have LM1 := Lib.hid lm1
    have CA := Lib.hid cA
    have HO1 := Lib.hid ho1
    have kc := fun (w : World) (C : Array Value) (n c : Nat) => Lib.run_convert_bytes_const (P := Tryz.prog) w 42 5 C n c Tryz.underlying42 Tryz.underlying5
    clear PI hW2 hs2 hfl hln CC0 R3 cA ho1 lm1 hbm
    go_wp2_with fail
    rw [← HW2.out]
    refine CC.out.mono ?_
    rintro e w4 ⟨⟨v4, rfl, o4⟩, s4⟩
    obtain ⟨A4, c4, rfl, f1, f2, f3⟩ := own_form o4
    have S34 := Lib.hid (Still.trans SW.out s4)
    have lm4 := LM1.out.still S34.out
    obtain ⟨sv4, l4⟩ := lm4.log
    have k0 := l4.cells.1
    have AP := Lib.hid (append_M nm A4 (8 + m) c4 w4.heap.size (magicL ++ b) lm4.med G1.out.ok (by have := G1.out.cnt; omega) G1.out.wt HSZ.out (Reads.of_own o4) (Nat.le_refl _) f3 (by have := HM.out; omega))
    have L4 := Lib.hid lm4
    clear l4 lm4 o4 f1 f2 f3 s4 CC SW
    go_wp2_with fail
    refine AP.out.mono ?_
    rintro e w5 ⟨rfl, hleft5⟩
    obtain ⟨M2, hM2⟩ : ∃ M2, M2 = (opAppend M1 nm (magicL ++ b)).2 := ⟨_, rfl⟩
    obtain ⟨e2, he2⟩ : ∃ e2, e2 = (opAppend M1 nm (magicL ++ b)).1 := ⟨_, rfl⟩
    have G2 := Lib.hid (show M2.good (k + 2) from by rw [hM2]; exact opAppend_good G1.out nm _)
    rw [← hM2, ← he2] at E1
    rw [← hM2] at hleft5
    rw [← he2]
    have LL2 := Lib.hid (show LLeft w w5 base g gl own lo M2 S from LLeft.chain CA.out HO1.out (LLeft.of_still S34.out (LLeft.med L4.out hleft5)))
    clear hleft5 hM2 he2 AP k0 L4
    obtain ⟨c5, own5, lo5, ho5, lm5⟩ := LL2.out
    obtain ⟨sv5, l5⟩ := lm5.log
    have C5 := Lib.hid c5
    have HO5 := Lib.hid ho5
    have LM5 := Lib.hid lm5
    have LI5 := Lib.hid l5
    have k0 := l5.cells.1
    clear c5 ho5
    by_cases z11 : e2 = 11
    · subst z11
      have RM := Lib.hid (remove_M nm lm5.med G2.out.ok (by have := G2.out.cnt; omega) HSZ.out)
      obtain ⟨M3, hM3⟩ : ∃ M3, M3 = (opRemove M2 nm).2 := ⟨_, rfl⟩
      obtain ⟨e3, he3⟩ : ∃ e3, e3 = (opRemove M2 nm).1 := ⟨_, rfl⟩
      rw [← hM3, ← he3] at E1 RM
      rw [if_pos rfl] at E1
      clear lm5 l5 hM3 he3
      go_wp2_with fail
      refine RM.out.mono ?_
      rintro e w6 ⟨rfl, hleft6⟩
      have LL3 := Lib.hid (show LLeft w w6 base g gl own lo M3 S from LLeft.chain C5.out HO5.out (LLeft.med LM5.out hleft6))
      clear hleft6
      by_cases z12 : e3 = 12
      · subst z12
        have EE := Lib.hid (show beginL M S b gf = (12, M3, S) by rw [E1, if_pos rfl])
        clear E1
        go_wp2_with fail
        go_ret
        exact ⟨gf, GF.out, by rw [EE.out]; rfl, by rw [EE.out]; exact LL3.out⟩
      · have EE := Lib.hid (show beginL M S b gf = (11, M3, S) by rw [E1, if_neg z12])
        have b12 : (e3 == 12) = false := by simpa using z12
        clear E1 z12
        go_wp2_with fail
        go_ret
        exact ⟨gf, GF.out, by rw [EE.out]; rfl, by rw [EE.out]; exact LL3.out⟩
    · rw [if_neg z11] at E1
      have b11 : (e2 == 11) = false := by simpa using z11
      by_cases z0 : e2 = 0
      · subst z0
        rw [if_neg (by simp)] at E1
        have EE := Lib.hid (show beginL M S b gf = (0, M2, S.grown (n, 8 + m)) by rw [E1, HBM.out])
        obtain ⟨A5, c5, hsv, q1, q2, _⟩ := l5.form
        subst hsv
        have k2 := l5.cells.2.2.1
        have ORW := Lib.hid l5.row
        have hlen := OK.out.few
        have hfre : S.fresh ≤ 1048576 := Nat.le_trans OK.out.fresh hlen
        have LOW := Lib.hid lm5.med.low
        have FIN := Lib.hid (fun w6 v6 (o6 : w6.ownsRow base 160 2 v6 (S.segs.length + 1) (segV S.segs ++ [.int .i64 (n : Int), .int .i64 ((8 + m : Nat) : Int)])) (g6 : (w5.alloc (.cells #[.int .i64 (n : Int), .int .i64 ((8 + m : Nat) : Int)] 160)).grownBy w6 (Value.slice A5 S.segs.length c5).ownBlock) (loc : v6.ownBlock = (Value.slice A5 S.segs.length c5).ownBlock ∨ v6.ownBlock = some (w5.alloc (.cells #[.int .i64 (n : Int), .int .i64 ((8 + m : Nat) : Int)] 160)).heap.size) => LLeft.chain C5.out HO5.out (LM.pushed (p := (n, 8 + m)) LM5.out LI5.out o6 g6 loc))
        have B6 := Lib.hid (fun w6 (g6 : (w5.alloc (.cells #[.int .i64 (n : Int), .int .i64 ((8 + m : Nat) : Int)] 160)).grownBy w6 (Value.slice A5 S.segs.length c5).ownBlock) => show Blk w6 gl 156 (logC g S (Value.slice A5 S.segs.length c5)) from (Chg.of_grown g6 (S := fun x => (Value.slice A5 S.segs.length c5).ownBlock = some x) (fun x hx _ => hx)).blk (LI5.out.blk.alloc _) (own_neM LI5.out.blk LI5.out.row (by decide)))
        obtain ⟨sl, hsl⟩ : ∃ sl, sl = S.segs.length := ⟨_, rfl⟩
        rw [← hsl] at k2 hlen
        rw [← hsl] at ORW FIN B6
        clear E1 lm5 l5 q1 q2 hsl
        go_wp2_with (first
          | (guard_target =~ wpList _ _ _ (Oper.mk (some 59) _ _ _ _ _ :: _) _ _; go_must (refine wpList_boxSg _ rfl _ rfl (n : Int) ((8 + m : Nat) : Int) rfl ?_))
          | (guard_target =~ wpList _ _ _ (Oper.mk (some 60) _ _ _ _ _ :: _) _ _; go_must (refine wpList_pushSg _ rfl _ _ rfl base (.slice A5 sl c5) sl (segV S.segs) rfl (ORW.out.alloc _) w5.heap.size [.int .i64 (n : Int), .int .i64 ((8 + m : Nat) : Int)] rfl (fun q u hq => ((Blk.new w5 160 #[.int .i64 (n : Int), .int .i64 ((8 + m : Nat) : Int)]).cell q).trans (by simpa using hq)) rfl (by simp [Value.oneCell']) hlen (by have := LOW.out; simp; omega) ?_); intro v6 w6 o6 g6 loc6; obtain ⟨A6, c6, rfl⟩ := own_formN2 o6; have O6 := Lib.hid o6; have G6 := Lib.hid g6; have LC6 := Lib.hid loc6; have c62 := (B6.out w6 g6).cell 2; have c63 : w6.cell? ⟨gl, 3, none⟩ = some (.int .i64 (S.fresh : Int)) := (B6.out w6 g6).cell 3; have c64 : w6.cell? ⟨gl, 4, none⟩ = some (.bool S.isOpen) := (B6.out w6 g6).cell 4; have z62 := (B6.out w6 g6).frozen 2; have z63 := (B6.out w6 g6).frozen 3; have z64 := (B6.out w6 g6).frozen 4; clear o6 g6 loc6))
        go_ret
        exact ⟨gf, GF.out, by rw [EE.out]; rfl, by rw [EE.out]; exact FIN.out _ _ O6.out G6.out LC6.out⟩
      · have EE := Lib.hid (show beginL M S b gf = (e2, M2, S) by rw [E1, if_pos z0])
        have b0 : (e2 != 0) = true := by simpa using z0
        clear E1 z0 z11 lm5 l5
        go_wp2_with fail
        go_ret
        exact ⟨gf, GF.out, by rw [EE.out]; rfl, by rw [EE.out]; exact LL2.out⟩
  · have E2 : beginL M S b gf = (e1, M1, S) := by rw [E1, if_pos z1]
    have b1 : (e1 != 0) = true := by simpa using z1
    have EE := Lib.hid E2
    clear E1 E2 z1
    go_wp2_with fail
    go_ret
    exact ⟨gf, GF.out, by rw [EE.out]; rfl, by rw [EE.out]; exact LL1.out⟩
end Go.Proofs.YtfneloobfidckaaGreatDoor
