/- Contracts and facts, several texts in one. It proves no statement. -/
import Derived.Test.YtmpnehhndhepgaaDoorPackGm
import Derived.Test.YtmpnehhndhepgaaDoorPackGk
import Derived.Test.YtmpnehhndhepgaaDoorPackGl
import Derived.Test.YtmpnehhndhepgaaDoorPackGe
import Derived.StillTailTactics
import Derived.Test.YtmpnehhndhepgaaDoorPackGj
import Derived.Test.YtmpnehhndhepgaaDoorPackGd
import Derived.Deep.DeepCutAuto

/- The document's own reader of values: counted lists and dicts; all values. It proves no statement. -/




namespace Go.Proofs.YtmpnehhndhepgaaDoor
open Go.RowKit
set_option linter.unusedVariables false
set_option linter.unusedSimpArgs false

/-- Where reading failed, what stands beside the error plays no part. -/
theorem dv_errs {w w' : World} {B g : Nat} {A : Option Addr} {N c : Nat} {bs : List UInt8} {D D' : Int × Tr × List UInt8} {e : Ending} (h : DVPost w B g A N c bs D e w') (h1 : D'.1 = D.1) (h0 : D.1 ≠ 0) : DVPost w B g A N c bs D' e w' := by
  obtain ⟨⟨cs, e1, e2, e3, p', r, _⟩, gr⟩ := h
  exact ⟨⟨cs, e1, e2, e3, p', by rw [h1]; exact r, fun h2 => absurd (h1.symm.trans h2) h0⟩, gr⟩
/-- A count of two bytes. -/
theorem rnm_cnt (kk t : Nat) (hk : bh t = 2) (hst : ∀ x, x < 65536 → (st kk x = t ↔ ¬ x < 16)) {w : World} {B g : Nat} {A : Option Addr} {N c : Nat} {bs : List UInt8} {p : Nat} (r : DRd w B g A N c bs p 0) :
    Calls Tryd.prog 75 #[.pointer (some ⟨g, 0, none⟩), .int .i64 2, .int .u64 16] w fun e w' => ∃ (n p2 : Nat) (er : Int), e = .returned (.int .u64 n) ∧ n ≤ 65535 ∧ DRd w' B g A N c bs p2 er ∧ w.grownBy w' (some g) ∧ er = (szD kk t (bs.drop p)).1 ∧ (er = 0 → n = (szD kk t (bs.drop p)).2.1 ∧ bs.drop p2 = (szD kk t (bs.drop p)).2.2) := by
  by_cases hs : (bs.drop p).length < 2
  · have hS := szD_short kk t 2 hk (by decide) (bs.drop p) hs
    refine (rnm_no r 2 (by have h1 := r.len; rw [List.length_drop] at hs; omega) (by omega) 16).mono ?_
    rintro e w' ⟨rfl, r', g'⟩
    exact ⟨0, p, 3, rfl, by omega, r', g', by rw [hS], fun h => absurd h (by decide)⟩
  · have hb := leNum_bd (bs.drop p) 2
    obtain ⟨x, hx⟩ : ∃ x, x = leNum ((bs.drop p).take 2).reverse := ⟨_, rfl⟩
    rw [← hx] at hb
    simp only [show (2 : Nat) ^ (8 * 2) = 65536 from rfl] at hb
    have hS := szD_cnt kk t 2 16 hk (by decide) (bs.drop p) x hx (hst x hb)
    rw [if_neg hs] at hS
    have hpk : p + 2 ≤ N := by have h1 := r.len; rw [List.length_drop] at hs; have := r.at_; omega
    refine (rnm_yes r 2 hpk (by omega) (by omega) 16 x hx (by omega)).mono ?_
    rintro e w' ⟨rfl, r', g'⟩
    exact ⟨x, p + 2, _, rfl, by omega, r', g', by rw [hS], fun h => ⟨by rw [hS], by rw [hS, ← List.drop_drop]⟩⟩

set_option maxRecDepth 100000 in
set_option maxHeartbeats 1600000 in
theorem do_220 {w : World} {B g : Nat} {A : Option Addr} {N c : Nat} {bs : List UInt8} {p : Nat} (r : DRd w B g A N c bs p 0) (depth : Int) (D : Int × Tr × List UInt8) (C : ∀ w2 p2 er2 (n : Nat), DRd w2 B g A N c bs p2 er2 → n ≤ 65535 → er2 = (szD 6 220 (bs.drop p)).1 → (er2 = 0 → n = (szD 6 220 (bs.drop p)).2.1 ∧ bs.drop p2 = (szD 6 220 (bs.drop p)).2.2) → Calls Tryd.prog 59 #[.pointer (some ⟨g, 0, none⟩), .int .i64 (n : Int), .int .i64 depth] w2 (DVPost w2 B g A N c bs D)) :
    Calls Tryd.prog 60 #[.pointer (some ⟨g, 0, none⟩), .int .i64 220, .int .i64 depth] w (DVPost w B g A N c bs D) := by
  obtain ⟨wA, hA⟩ : ∃ wA, wA = w.alloc (.cells cellsZ 26) := ⟨_, rfl⟩
  have sA : Still w wA := by rw [hA]; exact (Still.refl w).alloc (Nat.le_refl _) _
  have bA : Blk wA w.heap.size 26 cellsZ := by rw [hA]; exact Blk.new _ _ _
  have hgl := r.blk.lt
  have rA := r.still sA
  obtain ⟨fs, hu⟩ := underValue
  have HU := Lib.hid hu
  have BA := Lib.hid bA
  have HA := Lib.hid hA
  have SA := Lib.hid sA
  have HGL := Lib.hid hgl
  have TN := Lib.hid (rnm_cnt 6 220 rfl st_220 rA)
  have CC := Lib.hid C
  have GA := Lib.hid (show w.grownBy wA (some g) from grown_of_still sA)
  clear hA sA bA rA hu r hgl C
  go_enter Tryd.func60, Tryd.ntmps60
  go_upto_region 1 with fail
  rw [show (w.alloc (.cells #[.int .i64 0, .int .i64 0, .slice none 0 0, .string ⟨#[]⟩, .slice none 0 0, .slice none 0 0] 26)) = wA from HA.out.symm]
  go_wp2_with fail
  refine TN.out.mono ?_
  rintro e w1 ⟨n, p2, er, rfl, hn, r1, g1, he1, he2⟩
  have d1 : (n : Int) < 9223372036854775808 := by omega
  have d2 : (0 : Int) ≤ (n : Int) := by omega
  have VC := Lib.hid (CC.out w1 p2 er n r1 hn he1 he2)
  have G1 := Lib.hid (grown_trans GA.out g1)
  have B1 : Hid (Blk w1 w.heap.size 26 cellsZ) := Lib.hid ((g1.block _ BA.out.lt (fun e => by have := HGL.out; cases e; omega)).trans BA.out)
  clear r1 g1 he1 he2 TN CC hn
  go_wp2_with fail
  refine VC.out.mono ?_
  rintro e w3 ⟨⟨cs, rfl, h6, hall, p', r3, h3⟩, g3⟩
  have B3 : Hid (Blk w3 w.heap.size 26 cellsZ) := Lib.hid ((g3.block _ B1.out.lt (fun e => by have := HGL.out; cases e; omega)).trans B1.out)
  have H6 := Lib.hid h6
  have HALL := Lib.hid hall
  have FIN := Lib.hid (dv_fin (old := #[]) G1.out B1.out.lt HGL.out g3 h6 hall r3 h3)
  clear h6 hall r3 h3 g3 VC
  go_wp2_with (guard_target =~ wpList _ _ _ (Oper.mk none (Op.store _ _ _) _ _ _ _ :: _) _ _; go_must (refine wpList_store_rowTo rfl 26 (.tmp 6) (.tmp 114) rfl rfl w.heap.size cs.toArray rfl rfl 26 _ B3.out (by rw [sizeValue]; simp [H6.out]) (by simp [H6.out, cellsZ]) HALL.out ?_))
  (try simp only [Exit.inBlock, Exit.then])
  refine bodyPost_ret (results_cell_row rfl _ _ w.heap.size _ _ _ _ rfl (setRow_heap w3 _ _ _ _ _ B3.out) HU.out rfl (by rw [sizeValue]; simp [H6.out])) rfl ?_
  exact FIN.out

set_option maxRecDepth 100000 in
set_option maxHeartbeats 1600000 in
theorem do_222 {w : World} {B g : Nat} {A : Option Addr} {N c : Nat} {bs : List UInt8} {p : Nat} (r : DRd w B g A N c bs p 0) (depth : Int) (D : Int × Tr × List UInt8) (C : ∀ w2 p2 er2 (n : Nat), DRd w2 B g A N c bs p2 er2 → n ≤ 65535 → er2 = (szD 7 222 (bs.drop p)).1 → (er2 = 0 → n = (szD 7 222 (bs.drop p)).2.1 ∧ bs.drop p2 = (szD 7 222 (bs.drop p)).2.2) → Calls Tryd.prog 58 #[.pointer (some ⟨g, 0, none⟩), .int .i64 (n : Int), .int .i64 depth] w2 (DVPost w2 B g A N c bs D)) :
    Calls Tryd.prog 60 #[.pointer (some ⟨g, 0, none⟩), .int .i64 222, .int .i64 depth] w (DVPost w B g A N c bs D) := by
  obtain ⟨wA, hA⟩ : ∃ wA, wA = w.alloc (.cells cellsZ 26) := ⟨_, rfl⟩
  have sA : Still w wA := by rw [hA]; exact (Still.refl w).alloc (Nat.le_refl _) _
  have bA : Blk wA w.heap.size 26 cellsZ := by rw [hA]; exact Blk.new _ _ _
  have hgl := r.blk.lt
  have rA := r.still sA
  obtain ⟨fs, hu⟩ := underValue
  have HU := Lib.hid hu
  have BA := Lib.hid bA
  have HA := Lib.hid hA
  have SA := Lib.hid sA
  have HGL := Lib.hid hgl
  have TN := Lib.hid (rnm_cnt 7 222 rfl st_222 rA)
  have CC := Lib.hid C
  have GA := Lib.hid (show w.grownBy wA (some g) from grown_of_still sA)
  clear hA sA bA rA hu r hgl C
  go_enter Tryd.func60, Tryd.ntmps60
  go_upto_region 1 with fail
  rw [show (w.alloc (.cells #[.int .i64 0, .int .i64 0, .slice none 0 0, .string ⟨#[]⟩, .slice none 0 0, .slice none 0 0] 26)) = wA from HA.out.symm]
  go_wp2_with fail
  refine TN.out.mono ?_
  rintro e w1 ⟨n, p2, er, rfl, hn, r1, g1, he1, he2⟩
  have d1 : (n : Int) < 9223372036854775808 := by omega
  have d2 : (0 : Int) ≤ (n : Int) := by omega
  have VC := Lib.hid (CC.out w1 p2 er n r1 hn he1 he2)
  have G1 := Lib.hid (grown_trans GA.out g1)
  have B1 : Hid (Blk w1 w.heap.size 26 cellsZ) := Lib.hid ((g1.block _ BA.out.lt (fun e => by have := HGL.out; cases e; omega)).trans BA.out)
  clear r1 g1 he1 he2 TN CC hn
  go_wp2_with fail
  refine VC.out.mono ?_
  rintro e w3 ⟨⟨cs, rfl, h6, hall, p', r3, h3⟩, g3⟩
  have B3 : Hid (Blk w3 w.heap.size 26 cellsZ) := Lib.hid ((g3.block _ B1.out.lt (fun e => by have := HGL.out; cases e; omega)).trans B1.out)
  have H6 := Lib.hid h6
  have HALL := Lib.hid hall
  have FIN := Lib.hid (dv_fin (old := #[]) G1.out B1.out.lt HGL.out g3 h6 hall r3 h3)
  clear h6 hall r3 h3 g3 VC
  go_wp2_with (guard_target =~ wpList _ _ _ (Oper.mk none (Op.store _ _ _) _ _ _ _ :: _) _ _; go_must (refine wpList_store_rowTo rfl 26 (.tmp 6) (.tmp 122) rfl rfl w.heap.size cs.toArray rfl rfl 26 _ B3.out (by rw [sizeValue]; simp [H6.out]) (by simp [H6.out, cellsZ]) HALL.out ?_))
  (try simp only [Exit.inBlock, Exit.then])
  refine bodyPost_ret (results_cell_row rfl _ _ w.heap.size _ _ _ _ rfl (setRow_heap w3 _ _ _ _ _ B3.out) HU.out rfl (by rw [sizeValue]; simp [H6.out])) rfl ?_
  exact FIN.out

/-- What is said of 'dict', f more within one another. -/
def DDOK (f : Nat) : Prop := ∀ {w : World} {B g : Nat} {A : Option Addr} {N c : Nat} {bs : List UInt8} {p : Nat} {er0 : Int} (_ : DRd w B g A N c bs p er0) (n : Nat) (_ : n ≤ 65535) (D : Int × (List (List UInt8) × List Tr) × List UInt8) (_ : er0 = 0 → D = decM (decV f) n none (bs.drop p)) (_ : er0 ≠ 0 → D.1 = er0),
    Calls Tryd.prog 58 #[.pointer (some ⟨g, 0, none⟩), .int .i64 (n : Int), .int .i64 (16 - (f : Int))] w (DVPost w B g A N c bs (D.1, .mk 7 0 [] ByteArray.empty (D.2.1.1.map mkS) D.2.1.2, D.2.2))

theorem decV_step (f : Nat) (t : UInt8) (l : List UInt8) : decV (f + 1) (t :: l) =
    if kd t.toNat = -1 then (4, trZ, [])
    else if kd t.toNat = 3 then ((nuD t.toNat l).1, .mk 3 (nuD t.toNat l).2.1 [] ByteArray.empty [] [], (nuD t.toNat l).2.2)
    else if kd t.toNat = 4 then ((byD t.toNat l).1, .mk 4 0 (byD t.toNat l).2.1 ByteArray.empty [] [], (byD t.toNat l).2.2)
    else if kd t.toNat = 5 then ((txD t.toNat l).1, .mk 5 0 [] ⟨(txD t.toNat l).2.1.toArray⟩ [] [], (txD t.toNat l).2.2)
    else if kd t.toNat = 6 then
      (if (szD 6 t.toNat l).1 ≠ 0 then ((szD 6 t.toNat l).1, trZ, [])
       else ((decL (decV f) (szD 6 t.toNat l).2.1 (szD 6 t.toNat l).2.2).1, .mk 6 0 [] ByteArray.empty [] (decL (decV f) (szD 6 t.toNat l).2.1 (szD 6 t.toNat l).2.2).2.1, (decL (decV f) (szD 6 t.toNat l).2.1 (szD 6 t.toNat l).2.2).2.2))
    else if kd t.toNat = 7 then
      (if (szD 7 t.toNat l).1 ≠ 0 then ((szD 7 t.toNat l).1, trZ, [])
       else ((decM (decV f) (szD 7 t.toNat l).2.1 none (szD 7 t.toNat l).2.2).1, .mk 7 0 [] ByteArray.empty ((decM (decV f) (szD 7 t.toNat l).2.1 none (szD 7 t.toNat l).2.2).2.1.1.map mkS) (decM (decV f) (szD 7 t.toNat l).2.1 none (szD 7 t.toNat l).2.2).2.1.2, (decM (decV f) (szD 7 t.toNat l).2.1 none (szD 7 t.toNat l).2.2).2.2))
    else (0, .mk (kd t.toNat) 0 [] ByteArray.empty [] [], l) := rfl
theorem decV3 (f : Nat) (t : UInt8) (l : List UInt8) (h : kd t.toNat = 3) : decV (f + 1) (t :: l) = ((nuD t.toNat l).1, .mk 3 (nuD t.toNat l).2.1 [] ByteArray.empty [] [], (nuD t.toNat l).2.2) := by
  rw [decV_step, if_neg (by rw [h]; decide), if_pos h]
theorem decV4 (f : Nat) (t : UInt8) (l : List UInt8) (h : kd t.toNat = 4) : decV (f + 1) (t :: l) = ((byD t.toNat l).1, .mk 4 0 (byD t.toNat l).2.1 ByteArray.empty [] [], (byD t.toNat l).2.2) := by
  rw [decV_step, if_neg (by rw [h]; decide), if_neg (by rw [h]; decide), if_pos h]
theorem decV5 (f : Nat) (t : UInt8) (l : List UInt8) (h : kd t.toNat = 5) : decV (f + 1) (t :: l) = ((txD t.toNat l).1, .mk 5 0 [] ⟨(txD t.toNat l).2.1.toArray⟩ [] [], (txD t.toNat l).2.2) := by
  rw [decV_step, if_neg (by rw [h]; decide), if_neg (by rw [h]; decide), if_neg (by rw [h]; decide), if_pos h]
theorem decVx (f : Nat) (t : UInt8) (l : List UInt8) (k : Int) (h : kd t.toNat = k) (hk : k = 0 ∨ k = 1 ∨ k = 2) : decV (f + 1) (t :: l) = (0, .mk k 0 [] ByteArray.empty [] [], l) := by
  rw [decV_step]
  rcases hk with rfl | rfl | rfl <;> rw [h] <;> rfl
theorem decVn (f : Nat) (t : UInt8) (l : List UInt8) (h : kd t.toNat = -1) : decV (f + 1) (t :: l) = (4, trZ, []) := by
  rw [decV_step, if_pos h]
/-- A list behind its tag. -/
theorem list_of (f : Nat) (hf : f ≤ 16) (OK : DVOK f) {w2 : World} {B g : Nat} {A : Option Addr} {N c : Nat} {bs : List UInt8} {p2 : Nat} {er2 : Int} (t : UInt8) (l : List UInt8) (hk : kd t.toNat = 6) (n : Nat) (r2 : DRd w2 B g A N c bs p2 er2) (hn : n ≤ 65535) (h1 : er2 = (szD 6 t.toNat l).1) (h2 : er2 = 0 → n = (szD 6 t.toNat l).2.1 ∧ bs.drop p2 = (szD 6 t.toNat l).2.2) :
    Calls Tryd.prog 59 #[.pointer (some ⟨g, 0, none⟩), .int .i64 (n : Int), .int .i64 (16 - (f : Int))] w2 (DVPost w2 B g A N c bs (decV (f + 1) (t :: l))) := by
  have e : decV (f + 1) (t :: l) = (if (szD 6 t.toNat l).1 ≠ 0 then ((szD 6 t.toNat l).1, trZ, [])
       else ((decL (decV f) (szD 6 t.toNat l).2.1 (szD 6 t.toNat l).2.2).1, .mk 6 0 [] ByteArray.empty [] (decL (decV f) (szD 6 t.toNat l).2.1 (szD 6 t.toNat l).2.2).2.1, (decL (decV f) (szD 6 t.toNat l).2.1 (szD 6 t.toNat l).2.2).2.2)) := by
    rw [decV_step, if_neg (by rw [hk]; decide), if_neg (by rw [hk]; decide), if_neg (by rw [hk]; decide), if_neg (by rw [hk]; decide), if_pos hk]
  rw [e, ← h1]
  by_cases h0 : er2 = 0
  · rw [if_neg (by rw [h0]; decide), ← (h2 h0).1, ← (h2 h0).2]
    exact dlist_any f hf OK r2 n hn _ (fun _ => rfl) (fun h => absurd h0 h)
  · rw [if_pos h0]
    refine (dlist_any f hf OK r2 n hn (er2, [], []) (fun h => absurd h h0) (fun _ => rfl)).mono ?_
    intro e w' h
    exact dv_errs h rfl h0
theorem dict_of (f : Nat) (DD : DDOK f) {w2 : World} {B g : Nat} {A : Option Addr} {N c : Nat} {bs : List UInt8} {p2 : Nat} {er2 : Int} (t : UInt8) (l : List UInt8) (hk : kd t.toNat = 7) (n : Nat) (r2 : DRd w2 B g A N c bs p2 er2) (hn : n ≤ 65535) (h1 : er2 = (szD 7 t.toNat l).1) (h2 : er2 = 0 → n = (szD 7 t.toNat l).2.1 ∧ bs.drop p2 = (szD 7 t.toNat l).2.2) :
    Calls Tryd.prog 58 #[.pointer (some ⟨g, 0, none⟩), .int .i64 (n : Int), .int .i64 (16 - (f : Int))] w2 (DVPost w2 B g A N c bs (decV (f + 1) (t :: l))) := by
  have e : decV (f + 1) (t :: l) = (if (szD 7 t.toNat l).1 ≠ 0 then ((szD 7 t.toNat l).1, trZ, [])
       else ((decM (decV f) (szD 7 t.toNat l).2.1 none (szD 7 t.toNat l).2.2).1, .mk 7 0 [] ByteArray.empty ((decM (decV f) (szD 7 t.toNat l).2.1 none (szD 7 t.toNat l).2.2).2.1.1.map mkS) (decM (decV f) (szD 7 t.toNat l).2.1 none (szD 7 t.toNat l).2.2).2.1.2, (decM (decV f) (szD 7 t.toNat l).2.1 none (szD 7 t.toNat l).2.2).2.2)) := by
    rw [decV_step, if_neg (by rw [hk]; decide), if_neg (by rw [hk]; decide), if_neg (by rw [hk]; decide), if_neg (by rw [hk]; decide), if_neg (by rw [hk]; decide), if_pos hk]
  rw [e, ← h1]
  by_cases h0 : er2 = 0
  · rw [if_neg (by rw [h0]; decide), ← (h2 h0).1, ← (h2 h0).2]
    exact DD r2 n hn _ (fun _ => rfl) (fun h => absurd h0 h)
  · rw [if_pos h0]
    refine (DD r2 n hn (er2, ([], []), []) (fun h => absurd h h0) (fun _ => rfl)).mono ?_
    intro e w' h
    exact dv_errs h rfl h0
theorem i8_lo (y : Nat) (h : y < 128) : IntKind.i8.wrap (y : Int) = (y : Int) := by
  unfold IntKind.wrap; simp [IntKind.bits, IntKind.signed]; omega
theorem i8_hi (y : Nat) (h : 224 ≤ y) (h2 : y < 256) : IntKind.i8.wrap (y : Int) = (y : Int) - 256 := by
  unfold IntKind.wrap; simp [IntKind.bits, IntKind.signed]; omega
theorem nuD_lo (y : Nat) (l : List UInt8) (h : y < 128) : nuD y l = (0, (y : Int), l) := by
  unfold nuD
  rw [if_pos (by unfold bh; rw [if_neg (by omega), if_neg (by omega), if_neg (by omega), if_neg (by omega)]), i8_lo y h]
theorem nuD_hi (y : Nat) (l : List UInt8) (h : 224 ≤ y) (h2 : y < 256) : nuD y l = (0, (y : Int) - 256, l) := by
  unfold nuD
  rw [if_pos (by unfold bh; rw [if_neg (by omega), if_neg (by omega), if_neg (by omega), if_neg (by omega)]), i8_hi y h h2]
theorem szD_few (kk t b : Nat) (l : List UInt8) (h1 : t < 160) (hb : noneT kk = b) : szD kk t l = (0, t - b, l) := by
  unfold szD
  rw [if_pos (by unfold bh; rw [if_neg (by omega), if_neg (by omega), if_neg (by omega), if_neg (by omega)])]
  rw [hb]
/-- 'Value' of whatever bytes, seventeen within one another and fewer. -/
theorem dv_step (f : Nat) (hf : f ≤ 16) (OK : DVOK f) (DD : DDOK f) : DVOK (f + 1) := by
  intro w B g A N c bs p r
  obtain ⟨dp, hdp⟩ : ∃ dp : Int, dp = 17 - ((f + 1 : Nat) : Int) := ⟨_, rfl⟩
  have h16 : dp ≤ 16 := by omega
  have hdf : dp = 16 - (f : Int) := by omega
  rw [← hdp]
  rcases hd : bs.drop p with _ | ⟨t, l⟩
  · exact dv_end r dp hd
  have hp1 := (drop_one hd).1
  obtain ⟨y, hy⟩ : ∃ y, y = t.toNat := ⟨_, rfl⟩
  have hy2 : y < 256 := by rw [hy]; exact t.toNat_lt
  by_cases c1 : y < 128
  · rw [decV3 f t l (by rw [← hy]; unfold kd; rw [if_pos (by omega)]), ← hy, nuD_lo y l c1]
    have q := dv_pos r dp hd h16 (by omega)
    rwa [← hy] at q
  by_cases c2 : y < 144
  · refine dv_dict r dp hd h16 (by omega) (by omega) _ (fun w2 r2 => ?_)
    have hs := szD_few 7 y 128 l (by omega) rfl
    have q := dict_of f DD t l (by rw [← hy]; unfold kd; rw [if_neg (by omega), if_pos (by omega)]) (y - 128) r2 (by omega) (by rw [← hy, hs]) (fun _ => ⟨by rw [← hy, hs], by rw [← hy, hs]; exact hp1⟩)
    rw [← hdf, show ((y - 128 : Nat) : Int) = (t.toNat : Int) - 128 by omega] at q
    exact q
  by_cases c3 : y < 160
  · refine dv_list r dp hd h16 (by omega) (by omega) _ (fun w2 r2 => ?_)
    have hs := szD_few 6 y 144 l (by omega) rfl
    have q := list_of f hf OK t l (by rw [← hy]; unfold kd; rw [if_neg (by omega), if_neg (by omega), if_pos (by omega)]) (y - 144) r2 (by omega) (by rw [← hy, hs]) (fun _ => ⟨by rw [← hy, hs], by rw [← hy, hs]; exact hp1⟩)
    rw [← hdf, show ((y - 144 : Nat) : Int) = (t.toNat : Int) - 144 by omega] at q
    exact q
  by_cases c5 : kd y = 5
  · rw [decV5 f t l (by rw [← hy]; exact c5)]
    exact dv_text r dp hd h16 (by rw [← hy]; exact c5)
  have c5a : ¬ ((160 ≤ y ∧ y < 192) ∨ y = 217 ∨ y = 218) := fun h => c5 ((kd5 y).2 h)
  by_cases c6 : 224 ≤ y
  · rw [decV3 f t l (by rw [← hy]; unfold kd; rw [if_pos (by omega)]), ← hy, nuD_hi y l c6 hy2]
    have q := dv_neg r dp hd h16 (by omega)
    rwa [← hy] at q
  refine dv_other r dp hd h16 (by omega) (by omega) _ (fun w2 r2 => ?_)
  rw [← hy]
  by_cases e192 : y = 192
  · rw [decVx f t l 0 (by rw [← hy, e192]; rfl) (by omega), ← hp1, e192]
    exact do_192 r2 dp
  by_cases e194 : y = 194
  · rw [decVx f t l 1 (by rw [← hy, e194]; rfl) (by omega), ← hp1, e194]
    exact do_194 r2 dp
  by_cases e195 : y = 195
  · rw [decVx f t l 2 (by rw [← hy, e195]; rfl) (by omega), ← hp1, e195]
    exact do_195 r2 dp
  by_cases e196 : y = 196
  · rw [decV4 f t l (by rw [← hy, e196]; rfl), ← hy, ← hp1, e196]
    by_cases hs : (bs.drop (p + 1)).length < 1
    · exact do_196_A r2 dp hs
    · by_cases hf : ((bs.drop (p + 1)).drop 1).length < leNum ((bs.drop (p + 1)).take 1).reverse
      · exact do_196_C r2 dp hs _ rfl (by omega) hf
      · exact do_196_D r2 dp hs _ rfl (by omega) hf
  by_cases e197 : y = 197
  · rw [decV4 f t l (by rw [← hy, e197]; rfl), ← hy, ← hp1, e197]
    by_cases hs : (bs.drop (p + 1)).length < 2
    · exact do_197_A r2 dp hs
    · by_cases hl : leNum ((bs.drop (p + 1)).take 2).reverse < 256
      · exact do_197_B r2 dp hs _ rfl hl
      · by_cases hf : ((bs.drop (p + 1)).drop 2).length < leNum ((bs.drop (p + 1)).take 2).reverse
        · exact do_197_C r2 dp hs _ rfl hl hf
        · exact do_197_D r2 dp hs _ rfl hl hf
  by_cases e204 : y = 204
  · rw [decV3 f t l (by rw [← hy, e204]; rfl), ← hy, ← hp1, e204]
    by_cases hs : (bs.drop (p + 1)).length < 1
    · exact do_204_no r2 dp hs
    · exact do_204_yes r2 dp hs
  by_cases e205 : y = 205
  · rw [decV3 f t l (by rw [← hy, e205]; rfl), ← hy, ← hp1, e205]
    by_cases hs : (bs.drop (p + 1)).length < 2
    · exact do_205_no r2 dp hs
    · exact do_205_yes r2 dp hs
  by_cases e206 : y = 206
  · rw [decV3 f t l (by rw [← hy, e206]; rfl), ← hy, ← hp1, e206]
    by_cases hs : (bs.drop (p + 1)).length < 4
    · exact do_206_no r2 dp hs
    · exact do_206_yes r2 dp hs
  by_cases e207 : y = 207
  · rw [decV3 f t l (by rw [← hy, e207]; rfl), ← hy, ← hp1, e207]
    by_cases hs : (bs.drop (p + 1)).length < 8
    · exact do_207_no r2 dp hs
    · by_cases hl : leNum ((bs.drop (p + 1)).take 8).reverse < 4294967296
      · exact do_207_lo r2 dp hs _ rfl hl
      · by_cases h63 : leNum ((bs.drop (p + 1)).take 8).reverse < 9223372036854775808
        · exact do_207_ok r2 dp hs _ rfl hl h63
        · exact do_207_hi r2 dp hs _ rfl hl h63
  by_cases e208 : y = 208
  · rw [decV3 f t l (by rw [← hy, e208]; rfl), ← hy, ← hp1, e208]
    exact do_208 r2 dp
  by_cases e209 : y = 209
  · rw [decV3 f t l (by rw [← hy, e209]; rfl), ← hy, ← hp1, e209]
    exact do_209 r2 dp
  by_cases e210 : y = 210
  · rw [decV3 f t l (by rw [← hy, e210]; rfl), ← hy, ← hp1, e210]
    exact do_210 r2 dp
  by_cases e211 : y = 211
  · rw [decV3 f t l (by rw [← hy, e211]; rfl), ← hy, ← hp1, e211]
    exact do_211 r2 dp
  by_cases e220 : y = 220
  · rw [e220]
    refine do_220 r2 dp _ (fun w3 p3 er3 n r3 hn h1 h2 => ?_)
    rw [hp1] at h1 h2
    have q := list_of f hf OK t l (by rw [← hy, e220]; rfl) n r3 hn (by rw [← hy, e220]; exact h1) (fun h => by rw [← hy, e220]; exact h2 h)
    rw [← hdf] at q
    exact q
  by_cases e222 : y = 222
  · rw [e222]
    refine do_222 r2 dp _ (fun w3 p3 er3 n r3 hn h1 h2 => ?_)
    rw [hp1] at h1 h2
    have q := dict_of f DD t l (by rw [← hy, e222]; rfl) n r3 hn (by rw [← hy, e222]; exact h1) (fun h => by rw [← hy, e222]; exact h2 h)
    rw [← hdf] at q
    exact q
  rw [decVn f t l (by rw [← hy]; unfold kd; rw [if_neg (by omega), if_neg (by omega), if_neg (by omega), if_neg (by omega), if_neg (by omega), if_neg (by omega), if_neg (by omega), if_neg (by omega)])]
  exact do_bad r2 dp y (by omega) (by omega) e192 e194 e195 e196 e197 e204 e205 e206 e207 e208 e209 e210 e211 (by omega) (by omega) e220 e222 _ _
theorem dv_zero : DVOK 0 := by
  intro w B g A N c bs p r
  rcases hd : bs.drop p with _ | ⟨t, l⟩
  · exact dv_end r _ hd
  · exact dv_deep r _ hd (by omega)
end Go.Proofs.YtmpnehhndhepgaaDoor

/- The document's own Decode, of whatever bytes. It proves no statement. -/




namespace Go.Proofs.YtmpnehhndhepgaaDoor
open Go.RowKit
set_option linter.unusedVariables false
set_option linter.unusedSimpArgs false

theorem dv_all : ∀ f, f ≤ 17 → DVOK f
  | 0, _ => dv_zero
  | f + 1, h => dv_step f (by omega) (dv_all f (by omega)) (fun r n hn D h0 h1 => ddict_any f (by omega) (dv_all f (by omega)) r n hn D h0 h1)

set_option maxRecDepth 100000 in
set_option maxHeartbeats 3200000 in
theorem rdecode_any (A : Option Addr) (n c : Nat) (l : List UInt8) (w : World) (B : Nat) (hr : Reads w B A n l) (hB : B ≤ w.heap.size) (hn : n ≤ 65536) (hc : n ≤ c) (hcm : c ≤ 9223372036854775807) (hA : A = none → n = 0 ∧ c = 0) :
    Calls Tryd.prog 18 #[.slice A n c] w fun e w' => (∃ cs : List Value, e = .returned (.tuple #[.agg cs.toArray, .int .i64 (decB l).1]) ∧ cs.length = 6 ∧ cs.toArray.all (·.oneCell') = true ∧ HasP w' (fun b => w.heap.size ≤ b) (decB l).2 cs.toArray) ∧ Still w w' := by
  obtain ⟨D, hD⟩ : ∃ D, D = decB l := ⟨_, rfl⟩
  rw [← hD]
  have hlen := hr.1
  unfold decB at hD
  rw [if_neg (by omega)] at hD
  obtain ⟨wA, hA'⟩ : ∃ wA, wA = w.alloc (.cells cellsZ 26) := ⟨_, rfl⟩
  have sA : Still w wA := by rw [hA']; exact (Still.refl w).alloc (Nat.le_refl _) _
  have bA : Blk wA w.heap.size 26 cellsZ := by rw [hA']; exact Blk.new _ _ _
  obtain ⟨g, hg⟩ : ∃ g, g = wA.heap.size := ⟨_, rfl⟩
  obtain ⟨w1, hw1⟩ : ∃ w1, w1 = wA.alloc (.cells #[.slice A n c, .int .i64 0, .int .i64 0] 65) := ⟨_, rfl⟩
  have s1 : Still wA w1 := by rw [hw1]; exact (Still.refl wA).alloc (Nat.le_refl _) _
  have r1 : DRd w1 B g A n c l 0 0 :=
    { blk := by rw [hw1, hg]; exact Blk.new _ _ _
      reads := (hr.still hB sA).still (Nat.le_trans hB sA.size) s1
      at_ := Nat.zero_le _, far := by rw [hg]; exact Nat.le_trans hB sA.size
      small := hn, cap := hc, capm := hcm, nil := hA }
  have VL0 := dv_all 16 (by omega) w1 B g A n c l 0 r1
  rw [show (17 : Int) - ((16 : Nat) : Int) = 1 by omega, List.drop_zero] at VL0
  obtain ⟨E, hE⟩ : ∃ E, E = decV 16 l := ⟨_, rfl⟩
  rw [← hE] at VL0 hD
  have VL := Lib.hid VL0
  have HD := Lib.hid hD
  obtain ⟨fs, hu⟩ := underValue
  have HU := Lib.hid hu
  have SA := Lib.hid sA
  have BA := Lib.hid bA
  have HA := Lib.hid hA'
  have HW1 := Lib.hid hw1
  have HG := Lib.hid hg
  have S1 := Lib.hid s1
  have HLN := Lib.hid hlen
  have LOW := Lib.hid (show w.heap.size < g by rw [hg]; exact bA.lt)
  have d1 : ¬ 65536 < (n : Int) := by omega
  clear hA' sA bA hu hr hA hB hn hD hlen VL0 hE r1 hw1 s1 hg hc hcm
  go_enter Tryd.func18, Tryd.ntmps18
  go_upto_region 1 with fail
  rw [show (w.alloc (.cells #[.int .i64 0, .int .i64 0, .slice none 0 0, .string ⟨#[]⟩, .slice none 0 0, .slice none 0 0] 26)) = wA from HA.out.symm]
  go_upto_region 4 with fail
  rw [← HW1.out, ← HG.out]
  clear HW1 HG
  go_wp2_with fail
  refine VL.out.mono ?_
  rintro e w3 ⟨⟨cs, rfl, hc6, hall, p', r3, h3⟩, gr3⟩
  have S3 := Lib.hid (((SA.out.trans S1.out).grown gr3 (SA.out.trans S1.out).size (fun k hk => by cases hk; have := LOW.out; omega) : Still w w3))
  have B3 := Lib.hid (show Blk w3 w.heap.size 26 cellsZ from (gr3.block _ (BA.out.still S1.out).lt (fun e => by have := LOW.out; cases e; omega)).trans (BA.out.still S1.out))
  have ALL := Lib.hid hall
  have C6 := Lib.hid hc6
  have R3 := Lib.hid r3
  have H3 := Lib.hid h3
  have Z1 := Lib.hid (show w.heap.size < w1.heap.size from Nat.lt_of_lt_of_le BA.out.lt S1.out.size)
  have Z3 := Lib.hid (show w1.heap.size ≤ w3.heap.size from gr3.size)
  obtain ⟨v, hv⟩ : ∃ v, v = w3.heap.size := ⟨_, rfl⟩
  obtain ⟨w4, hw4⟩ : ∃ w4, w4 = (w3.alloc (.cells #[.int .i64 0, .int .i64 0, .slice none 0 0, .string ⟨#[]⟩, .slice none 0 0, .slice none 0 0] 26)).setRow w3.heap.size cs.toArray := ⟨_, rfl⟩
  have s4 : Still w3 w4 := by rw [hw4]; exact below_setRow ((Still.refl w3).alloc (Nat.le_refl _) _) (Nat.le_refl _) _
  have BV4 := Lib.hid (show Blk w4 v 26 cs.toArray by rw [hw4, hv]; exact setRow_heap _ _ _ _ _ _ (heap_alloc_new w3 _))
  have S4 := Lib.hid (Still.trans (show Still w w3 from S3.out) s4)
  have B4 := Lib.hid (B3.out.still s4)
  have R4 := Lib.hid (R3.out.still s4)
  have S34 := Lib.hid s4
  have HW4 := Lib.hid hw4
  have HV := Lib.hid hv
  have HVW := Lib.hid (show w.heap.size < v by rw [hv]; exact B3.out.lt)
  clear hall hc6 r3 h3 gr3 VL s4 hw4 hv
  go_upto_region 5 with (guard_target =~ wpList _ _ _ (Oper.mk none (Op.store _ _ _) _ _ _ _ :: _) _ _; go_must (refine wpList_store_rowTo rfl 26 (.tmp 5) (.tmp 14) rfl rfl w3.heap.size cs.toArray rfl rfl 26 _ (heap_alloc_new w3 _) (by rw [sizeValue]; simp; exact C6.out.symm) (by simp; exact C6.out.symm) ALL.out ?_))
  rw [← HW4.out, ← HV.out]
  clear HW4 HV
  have k2 : w4.cell? ⟨g, 2, none⟩ = some (.int .i64 E.1) := R4.out.blk.cell 2
  have k1 : w4.cell? ⟨g, 1, none⟩ = some (.int .i64 p') := R4.out.blk.cell 1
  have hpn := R4.out.at_
  by_cases h0 : E.1 = 0
  · have b0 : (E.1 == 0) = true := by simpa using h0
    obtain ⟨q1, q2⟩ := H3.out h0
    have VAL := Lib.hid (show HasP w4 (fun b => w1.heap.size ≤ b) E.2.1 cs.toArray from HasP.keep (fun b _ hl => S34.out.block b hl) S34.out.size (fun _ hb _ => hb) _ _ q2)
    have HQ1 := Lib.hid q1
    clear q1 q2 H3
    rw [h0] at k2
    by_cases hrest : E.2.2 = []
    · have HDE := Lib.hid (show D = (0, E.2.1) by rw [HD.out, if_neg (by rw [h0]; decide), if_neg (by simp [hrest])])
      have d2 : ¬ (p' : Int) < (n : Int) := by
        have h1 := congrArg List.length (HQ1.out.trans hrest)
        have h2 := HLN.out
        simp at h1
        omega
      clear HD hrest h0 b0
      go_upto_region 9 with fail
      refine wp_region_lit ?_
      refine wpList_load_row rfl 26 (.tmp 5) rfl v rfl _ _ _ _ BV4.out HU.out rfl (by rw [sizeValue]; simp [C6.out]) ?_
      refine wpList_store_rowTo rfl 26 (.tmp 2) (.tmp 42) rfl rfl w.heap.size cs.toArray rfl rfl 26 _ B4.out (by rw [sizeValue]; simp [C6.out]) (by simp [C6.out, cellsZ]) ALL.out ?_
      go_wp2_with fail
      refine bodyPost_ret (results_val2 rfl _ _ w.heap.size cs.toArray rfl (setRow_heap w4 _ _ _ _ _ B4.out) (by simp [C6.out]) _ rfl) rfl ?_
      rw [HDE.out]
      refine ⟨⟨cs, rfl, C6.out, by first | exact ALL.out | simpa using ALL.out, ?_⟩, below_setRow S4.out (Nat.le_refl _) _⟩
      have z := Z1.out
      refine HasP.keep (fun b hb hl => setRow_other w4 w.heap.size b _ (by have : w1.heap.size ≤ b := hb; omega)) (by simp [World.setRow]) (fun b hb _ => by have : w1.heap.size ≤ b := hb; omega) _ _ VAL.out
    · have HDE := Lib.hid (show D = (6, trZ) by rw [HD.out, if_neg (by rw [h0]; decide), if_pos hrest])
      have d2 : (p' : Int) < (n : Int) := by
        have h2 := HLN.out
        have h1 : ¬ p' = n := fun e => hrest (by rw [← HQ1.out, e]; exact List.drop_of_length_le (by omega))
        omega
      clear HD hrest h0 b0 VAL
      have f2 : w4.frozen? ⟨g, 2, none⟩ = false := R4.out.blk.frozen 2
      obtain ⟨w5, hw5⟩ : ∃ w5, w5 = w4.setCell ⟨g, 2, none⟩ (.int .i64 6) := ⟨_, rfl⟩
      have HW5 := Lib.hid hw5
      have B5 := Lib.hid (show Blk w5 w.heap.size 26 cellsZ by rw [hw5]; exact B4.out.far (by have := LOW.out; simp only; omega) _)
      have S5 := Lib.hid (show Still w w5 by rw [hw5]; exact S4.out.grown (grown_setc (World.grownBy.refl _ _)) S4.out.size (fun k hk => by cases hk; have := LOW.out; omega))
      have k25 : w5.cell? ⟨g, 2, none⟩ = some (.int .i64 6) := by rw [hw5]; have h := R4.out.blk.setc 2 (.int .i64 6); simpa using Blk.cell h 2
      clear hw5
      go_upto_region 7 with fail
      rw [← HW5.out]
      clear k2 f2 k1
      go_upto_region 8 with fail
      have GL := Lib.hid (show g < w5.heap.size from by have h := R4.out.blk.lt; rw [HW5.out]; simpa [World.setCell] using h)
      refine wp_region_held_drew (S := fun W => W.cell? ⟨g, 2, none⟩ = some (.int .i64 6)) (by kernel_rfl) (((Still.refl w5).drew.cell (p := ⟨g, 2, none⟩) GL.out).trans k25) (fun hHeld => ?_)
      obtain ⟨w6, hw6⟩ : ∃ w6, w6 = w5.drew := ⟨_, rfl⟩
      have S56 := Lib.hid (show Still w5 w6 by rw [hw6]; exact (Still.refl _).drew)
      have B6 := Lib.hid (B5.out.still S56.out)
      have S6 := Lib.hid (Still.trans S5.out S56.out)
      have K6 := Lib.hid (show w6.cell? ⟨g, 2, none⟩ = some (.int .i64 6) from (S56.out.cell (p := ⟨g, 2, none⟩) GL.out).trans k25)
      rw [← hw6]
      clear hw6
      try simp only [Act.put, List.setIfInBounds_toArray, List.set_cons_zero, List.set_cons_succ]
      refine wpAnyH_take (i := 0) (v := .agg #[.int .i64 0, .int .i64 0, .slice none 0 0, .string ⟨#[]⟩, .slice none 0 0, .slice none 0 0]) rfl (by kernel_rfl) (by kernel_rfl) (by kernel_rfl) (fun _ _ _ h => h) (Or.inl ⟨by kernel_rfl, fun w hS => by have hS0 : w.cell? ⟨g, 2, none⟩ = some (.int .i64 6) := hS; go_simp⟩) (by assumption) ?_
      try simp only [Act.put, List.setIfInBounds_toArray, List.set_cons_zero, List.set_cons_succ]
      refine wpAnyH_take (i := 1) (v := .pointer (some ⟨g, 0, none⟩)) rfl (by kernel_rfl) (by kernel_rfl) (by kernel_rfl) (fun _ _ _ h => h) (Or.inl ⟨by kernel_rfl, fun w hS => by have hS0 : w.cell? ⟨g, 2, none⟩ = some (.int .i64 6) := hS; go_simp⟩) (by assumption) ?_
      try simp only [Act.put, List.setIfInBounds_toArray, List.set_cons_zero, List.set_cons_succ]
      refine wpAnyH_take (i := 2) (v := .pointer (some ⟨g, 0, none⟩)) rfl (by kernel_rfl) (by kernel_rfl) (by kernel_rfl) (fun _ _ _ h => h) (Or.inl ⟨by kernel_rfl, fun w hS => by have hS0 : w.cell? ⟨g, 2, none⟩ = some (.int .i64 6) := hS; go_simp⟩) (by assumption) ?_
      try simp only [Act.put, List.setIfInBounds_toArray, List.set_cons_zero, List.set_cons_succ]
      refine wpAnyH_take (i := 3) (v := .pointer (some ⟨g, 2, none⟩)) rfl (by kernel_rfl) (by kernel_rfl) (by kernel_rfl) (fun _ _ _ h => h) (Or.inl ⟨by kernel_rfl, fun w hS => by have hS0 : w.cell? ⟨g, 2, none⟩ = some (.int .i64 6) := hS; go_simp⟩) (by assumption) ?_
      try simp only [Act.put, List.setIfInBounds_toArray, List.set_cons_zero, List.set_cons_succ]
      refine wpAnyH_take (i := 4) (v := .int .i64 6) rfl (by kernel_rfl) (by kernel_rfl) (by kernel_rfl) (fun _ _ _ h => h) (Or.inl ⟨by kernel_rfl, fun w hS => by have hS0 : w.cell? ⟨g, 2, none⟩ = some (.int .i64 6) := hS; go_simp⟩) (by assumption) ?_
      try simp only [Act.put, List.setIfInBounds_toArray, List.set_cons_zero, List.set_cons_succ]
      refine wpAnyH_ready (rs := [5]) (by kernel_rfl) (by simp) ?_
      refine AllReadyH.cons rfl (fun K hK => ?_) AllReadyH.nil
      rw [if_pos (by kernel_rfl)]
      have kq1 : w6.heap[w.heap.size]? = some (.cells cellsZ 26 (0, 0)) := B6.out
      have kq2 : (Tryd.prog.info? 26).map (·.size) = some cellsZ.size := by rw [sizeValue]; rfl
      have kq3 : cellsZ.all (·.oneCell') = true := by kernel_rfl
      have kq4 : cellsZ.size = cellsZ.size := rfl
      with_reducible refine wp_store_row 26 (.tmp 2) (.tmp 37) (by kernel_rfl) w.heap.size cellsZ (by kernel_rfl) (by kernel_rfl) 26 cellsZ kq1 kq2 kq4 kq3 ?_
      refine hK.out _ _ ((World.cell?_of_block (w := w6) (a := ⟨g, 2, none⟩) (setRow_other w6 w.heap.size g _ (by have := LOW.out; omega))).trans K6.out) (fun hHeld => ?_)
      clear hK K
      try simp only [Act.put, List.setIfInBounds_toArray, List.set_cons_zero, List.set_cons_succ]
      refine wpAnyH_take (i := 6) (v := .int .i64 6) rfl (by kernel_rfl) (by kernel_rfl) (by kernel_rfl) (fun _ _ _ h => h) (Or.inl ⟨by kernel_rfl, fun w hS => by have hS0 : w.cell? ⟨g, 2, none⟩ = some (.int .i64 6) := hS; go_simp⟩) (by assumption) ?_
      try simp only [Act.put, List.setIfInBounds_toArray, List.set_cons_zero, List.set_cons_succ]
      refine wpAnyH_done (by kernel_rfl) ?_ _
      go_wp2_with fail
      refine bodyPost_ret (results_val2 rfl _ _ w.heap.size cellsZ rfl (setRow_heap w6 _ _ _ _ _ B6.out) rfl _ rfl) rfl ?_
      rw [HDE.out]
      exact ⟨⟨_, rfl, rfl, by decide +kernel, hasP_zero⟩, below_setRow S6.out (Nat.le_refl _) _⟩
  · have b0 : (E.1 == 0) = false := by simpa using h0
    have b1 : (E.1 != 0) = true := by simpa using h0
    have HDE := Lib.hid (show D = (E.1, trZ) by rw [HD.out, if_pos h0])
    have B5 := B4
    have S5 := S4
    have k25 := k2
    clear k2
    go_upto_region 8 with fail
    have GL := Lib.hid (show g < w4.heap.size from R4.out.blk.lt)
    refine wp_region_held_drew (S := fun W => W.cell? ⟨g, 2, none⟩ = some (.int .i64 E.1)) (by kernel_rfl) (((Still.refl w4).drew.cell (p := ⟨g, 2, none⟩) GL.out).trans k25) (fun hHeld => ?_)
    obtain ⟨w6, hw6⟩ : ∃ w6, w6 = w4.drew := ⟨_, rfl⟩
    have S56 := Lib.hid (show Still w4 w6 by rw [hw6]; exact (Still.refl _).drew)
    have B6 := Lib.hid (B5.out.still S56.out)
    have S6 := Lib.hid (Still.trans S5.out S56.out)
    have K6 := Lib.hid (show w6.cell? ⟨g, 2, none⟩ = some (.int .i64 E.1) from (S56.out.cell (p := ⟨g, 2, none⟩) GL.out).trans k25)
    rw [← hw6]
    clear hw6
    try simp only [Act.put, List.setIfInBounds_toArray, List.set_cons_zero, List.set_cons_succ]
    refine wpAnyH_take (i := 0) (v := .agg #[.int .i64 0, .int .i64 0, .slice none 0 0, .string ⟨#[]⟩, .slice none 0 0, .slice none 0 0]) rfl (by kernel_rfl) (by kernel_rfl) (by kernel_rfl) (fun _ _ _ h => h) (Or.inl ⟨by kernel_rfl, fun w hS => by have hS0 : w.cell? ⟨g, 2, none⟩ = some (.int .i64 E.1) := hS; go_simp⟩) (by assumption) ?_
    try simp only [Act.put, List.setIfInBounds_toArray, List.set_cons_zero, List.set_cons_succ]
    refine wpAnyH_take (i := 1) (v := .pointer (some ⟨g, 0, none⟩)) rfl (by kernel_rfl) (by kernel_rfl) (by kernel_rfl) (fun _ _ _ h => h) (Or.inl ⟨by kernel_rfl, fun w hS => by have hS0 : w.cell? ⟨g, 2, none⟩ = some (.int .i64 E.1) := hS; go_simp⟩) (by assumption) ?_
    try simp only [Act.put, List.setIfInBounds_toArray, List.set_cons_zero, List.set_cons_succ]
    refine wpAnyH_take (i := 2) (v := .pointer (some ⟨g, 0, none⟩)) rfl (by kernel_rfl) (by kernel_rfl) (by kernel_rfl) (fun _ _ _ h => h) (Or.inl ⟨by kernel_rfl, fun w hS => by have hS0 : w.cell? ⟨g, 2, none⟩ = some (.int .i64 E.1) := hS; go_simp⟩) (by assumption) ?_
    try simp only [Act.put, List.setIfInBounds_toArray, List.set_cons_zero, List.set_cons_succ]
    refine wpAnyH_take (i := 3) (v := .pointer (some ⟨g, 2, none⟩)) rfl (by kernel_rfl) (by kernel_rfl) (by kernel_rfl) (fun _ _ _ h => h) (Or.inl ⟨by kernel_rfl, fun w hS => by have hS0 : w.cell? ⟨g, 2, none⟩ = some (.int .i64 E.1) := hS; go_simp⟩) (by assumption) ?_
    try simp only [Act.put, List.setIfInBounds_toArray, List.set_cons_zero, List.set_cons_succ]
    refine wpAnyH_take (i := 4) (v := .int .i64 E.1) rfl (by kernel_rfl) (by kernel_rfl) (by kernel_rfl) (fun _ _ _ h => h) (Or.inl ⟨by kernel_rfl, fun w hS => by have hS0 : w.cell? ⟨g, 2, none⟩ = some (.int .i64 E.1) := hS; go_simp⟩) (by assumption) ?_
    try simp only [Act.put, List.setIfInBounds_toArray, List.set_cons_zero, List.set_cons_succ]
    refine wpAnyH_ready (rs := [5]) (by kernel_rfl) (by simp) ?_
    refine AllReadyH.cons rfl (fun K hK => ?_) AllReadyH.nil
    rw [if_pos (by kernel_rfl)]
    have kq1 : w6.heap[w.heap.size]? = some (.cells cellsZ 26 (0, 0)) := B6.out
    have kq2 : (Tryd.prog.info? 26).map (·.size) = some cellsZ.size := by rw [sizeValue]; rfl
    have kq3 : cellsZ.all (·.oneCell') = true := by kernel_rfl
    have kq4 : cellsZ.size = cellsZ.size := rfl
    with_reducible refine wp_store_row 26 (.tmp 2) (.tmp 37) (by kernel_rfl) w.heap.size cellsZ (by kernel_rfl) (by kernel_rfl) 26 cellsZ kq1 kq2 kq4 kq3 ?_
    refine hK.out _ _ ((World.cell?_of_block (w := w6) (a := ⟨g, 2, none⟩) (setRow_other w6 w.heap.size g _ (by have := LOW.out; omega))).trans K6.out) (fun hHeld => ?_)
    clear hK K
    try simp only [Act.put, List.setIfInBounds_toArray, List.set_cons_zero, List.set_cons_succ]
    refine wpAnyH_take (i := 6) (v := .int .i64 E.1) rfl (by kernel_rfl) (by kernel_rfl) (by kernel_rfl) (fun _ _ _ h => h) (Or.inl ⟨by kernel_rfl, fun w hS => by have hS0 : w.cell? ⟨g, 2, none⟩ = some (.int .i64 E.1) := hS; go_simp⟩) (by assumption) ?_
    try simp only [Act.put, List.setIfInBounds_toArray, List.set_cons_zero, List.set_cons_succ]
    refine wpAnyH_done (by kernel_rfl) ?_ _
    go_wp2_with fail
    refine bodyPost_ret (results_val2 rfl _ _ w.heap.size cellsZ rfl (setRow_heap w6 _ _ _ _ _ B6.out) rfl _ rfl) rfl ?_
    rw [HDE.out]
    exact ⟨⟨_, rfl, rfl, by decide +kernel, hasP_zero⟩, below_setRow S6.out (Nat.le_refl _) _⟩
end Go.Proofs.YtmpnehhndhepgaaDoor

/- The document's own Plain, of values as they are read. It proves no statement. -/



namespace Go.Proofs.YtmpnehhndhepgaaDoor
open Go.RowKit
set_option linter.unusedVariables false
set_option linter.unusedSimpArgs false

/-- The document's own 'Plain' of a value that was read. -/
def PlainOK (x : Tr) : Prop := ∀ (w : World) (B : Nat) (cs : Array Value), HasV w B x cs → B ≤ w.heap.size → clT x = x →
  Calls Tryd.prog 19 #[.agg cs] w fun e w' => e = .returned (.bool true) ∧ Still w w'
theorem clL_at : ∀ (l : List Tr), clL l = l → ∀ x ∈ l, clT x = x
  | [], _, x, h => by simp at h
  | y :: r, h, x, hx => by
    rw [clL_cons] at h
    simp only [List.cons.injEq] at h
    rcases List.mem_cons.1 hx with q | q
    · rw [q]; exact h.1
    · exact clL_at r h.2 x q
theorem cl_cases (k i : Int) (b : List UInt8) (t : ByteArray) (ks : List ByteArray) (l : List Tr) (h : clT (.mk k i b t ks l) = .mk k i b t ks l) :
    (k = 3 ∧ b = [] ∧ t = ByteArray.empty ∧ ks = [] ∧ l = []) ∨ (k = 4 ∧ i = 0 ∧ t = ByteArray.empty ∧ ks = [] ∧ l = []) ∨ (k = 5 ∧ i = 0 ∧ b = [] ∧ ks = [] ∧ l = []) ∨
    (k = 6 ∧ i = 0 ∧ b = [] ∧ t = ByteArray.empty ∧ ks = [] ∧ clL l = l) ∨ (k = 7 ∧ i = 0 ∧ b = [] ∧ t = ByteArray.empty ∧ clL l = l) ∨
    ((k ≠ 3 ∧ k ≠ 4 ∧ k ≠ 5 ∧ k ≠ 6 ∧ k ≠ 7) ∧ i = 0 ∧ b = [] ∧ t = ByteArray.empty ∧ ks = [] ∧ l = []) := by
  unfold clT at h
  by_cases h3 : k = 3
  · rw [if_pos h3] at h; simp only [Tr.mk.injEq] at h; exact .inl ⟨h3, h.2.2.1.symm, h.2.2.2.1.symm, h.2.2.2.2.1.symm, h.2.2.2.2.2.symm⟩
  rw [if_neg h3] at h
  by_cases h4 : k = 4
  · rw [if_pos h4] at h; simp only [Tr.mk.injEq] at h; exact .inr (.inl ⟨h4, h.2.1.symm, h.2.2.2.1.symm, h.2.2.2.2.1.symm, h.2.2.2.2.2.symm⟩)
  rw [if_neg h4] at h
  by_cases h5 : k = 5
  · rw [if_pos h5] at h; simp only [Tr.mk.injEq] at h; exact .inr (.inr (.inl ⟨h5, h.2.1.symm, h.2.2.1.symm, h.2.2.2.2.1.symm, h.2.2.2.2.2.symm⟩))
  rw [if_neg h5] at h
  by_cases h6 : k = 6
  · rw [if_pos h6] at h; simp only [Tr.mk.injEq] at h; exact .inr (.inr (.inr (.inl ⟨h6, h.2.1.symm, h.2.2.1.symm, h.2.2.2.1.symm, h.2.2.2.2.1.symm, h.2.2.2.2.2⟩)))
  rw [if_neg h6] at h
  by_cases h7 : k = 7
  · rw [if_pos h7] at h; simp only [Tr.mk.injEq] at h; exact .inr (.inr (.inr (.inr (.inl ⟨h7, h.2.1.symm, h.2.2.1.symm, h.2.2.2.1.symm, h.2.2.2.2.2⟩))))
  rw [if_neg h7] at h
  simp only [Tr.mk.injEq] at h
  exact .inr (.inr (.inr (.inr (.inr ⟨⟨h3, h4, h5, h6, h7⟩, h.2.1.symm, h.2.2.1.symm, h.2.2.2.1.symm, h.2.2.2.2.1.symm, h.2.2.2.2.2.symm⟩))))

set_option maxRecDepth 100000 in
set_option maxHeartbeats 6400000 in
theorem plain_mk (k i : Int) (b : List UInt8) (t : ByteArray) (ks : List ByteArray) (l : List Tr) (IH : ∀ x ∈ l, PlainOK x) : PlainOK (.mk k i b t ks l) := by
  intro w B cs h hB hcl
  unfold HasV at h
  obtain ⟨A, n, c, Ak, ck, Al, cl, rfl, hkb, hib, ⟨hr, hn, hA⟩, ht, ⟨hkeys, hkl⟩, hll, hL⟩ := h
  have hlen := hr.1
  have HLL := Lib.hid (show clL l = l by
    rcases cl_cases k i b t ks l hcl with h | h | h | h | h | h
    · rw [h.2.2.2.2]; unfold clL; rfl
    · rw [h.2.2.2.2]; unfold clL; rfl
    · rw [h.2.2.2.2]; unfold clL; rfl
    · exact h.2.2.2.2.2
    · exact h.2.2.2.2
    · rw [h.2.2.2.2.2]; unfold clL; rfl)
  have HC := Lib.hid (cl_cases k i b t ks l hcl)
  obtain ⟨m, hm⟩ : ∃ m, m = l.length := ⟨_, rfl⟩
  obtain ⟨mk, hmk⟩ : ∃ mk, mk = ks.length := ⟨_, rfl⟩
  rw [← hm] at hL hll ⊢
  rw [← hmk] at hkl ⊢
  obtain ⟨g, hg⟩ : ∃ g, g = w.heap.size := ⟨_, rfl⟩
  obtain ⟨wA, hwA⟩ : ∃ wA, wA = w.alloc (.cells #[.int .i64 k, .int .i64 i, .slice A n c, .string t, .slice Ak mk ck, .slice Al m cl] 26) := ⟨_, rfl⟩
  have SA := Lib.hid (show Still w wA by rw [hwA]; exact (Still.refl w).alloc (Nat.le_refl _) _)
  have BA := Lib.hid (show Blk wA g 26 #[.int .i64 k, .int .i64 i, .slice A n c, .string t, .slice Ak mk ck, .slice Al m cl] by rw [hwA, hg]; exact Blk.new _ _ _)
  have HWA := Lib.hid hwA
  have HG := Lib.hid hg
  have HM := Lib.hid hm
  have HMK := Lib.hid hmk
  have HLN := Lib.hid hlen
  have HH := Lib.hid hL
  have HBW := Lib.hid hB
  have HIH := Lib.hid IH
  have d3 : (m : Int) ≤ 1048576 := by omega
  have d5 : (mk : Int) ≤ 1048576 := by omega
  have d6 : (n : Int) ≤ 1048576 := by omega
  have d4 : (0 : Int) ≤ (m : Int) := by omega
  obtain ⟨fs, hu⟩ := underValue
  have HU := Lib.hid hu
  clear hwA hg hm hmk hlen hL hB IH hr hn hA hkeys hkl hll hcl hu hkb hib ht
  go_enter Tryd.func19, Tryd.ntmps19
  go_upto_region 1 with fail
  rw [← HWA.out, ← HG.out]
  clear HWA HG
  have k0 : wA.cell? ⟨g, 0, none⟩ = some (.int .i64 k) := BA.out.cell 0
  have k1 : wA.cell? ⟨g, 1, none⟩ = some (.int .i64 i) := BA.out.cell 1
  have k2 : wA.cell? ⟨g, 2, none⟩ = some (.slice A n c) := BA.out.cell 2
  have k3 : wA.cell? ⟨g, 3, none⟩ = some (.string t) := BA.out.cell 3
  have k4 : wA.cell? ⟨g, 4, none⟩ = some (.slice Ak mk ck) := BA.out.cell 4
  have k5 : wA.cell? ⟨g, 5, none⟩ = some (.slice Al m cl) := BA.out.cell 5
  go_cut [54] (fun s wx => s = .bool false ∧ wx = wA)
  case first =>
    have z : ∀ {α : Type} (q : List α), q = [] → q.length = 0 := fun q e => by rw [e]; rfl
    rcases HC.out with h | h | h | h | h | h
    · obtain ⟨rfl, hb, ht2, hks, hl⟩ := h
      have n0 : n = 0 := by rw [← HLN.out, hb]; rfl
      subst n0
      have tz : t = ⟨#[]⟩ := ht2
      subst tz
      have ts : (((⟨#[]⟩ : ByteArray).toList) != ((⟨#[]⟩ : ByteArray).toList)) = false := by decide +kernel
      have z4 : mk = 0 := by rw [HMK.out, hks]; rfl
      subst z4
      have z5 : m = 0 := by rw [HM.out, hl]; rfl
      subst z5
      clear hb ht2 hks hl
      go_wp2_with fail
      go_meet
      exact ⟨rfl, rfl⟩
    · obtain ⟨rfl, rfl, ht2, hks, hl⟩ := h
      have tz : t = ⟨#[]⟩ := ht2
      subst tz
      have ts : (((⟨#[]⟩ : ByteArray).toList) != ((⟨#[]⟩ : ByteArray).toList)) = false := by decide +kernel
      have z4 : mk = 0 := by rw [HMK.out, hks]; rfl
      subst z4
      have z5 : m = 0 := by rw [HM.out, hl]; rfl
      subst z5
      clear ht2 hks hl
      go_wp2_with fail
      go_meet
      exact ⟨rfl, rfl⟩
    · obtain ⟨rfl, rfl, hb, hks, hl⟩ := h
      have n0 : n = 0 := by rw [← HLN.out, hb]; rfl
      subst n0
      have z4 : mk = 0 := by rw [HMK.out, hks]; rfl
      subst z4
      have z5 : m = 0 := by rw [HM.out, hl]; rfl
      subst z5
      clear hb hks hl
      go_wp2_with fail
      go_meet
      exact ⟨rfl, rfl⟩
    · obtain ⟨rfl, rfl, hb, ht2, hks, _⟩ := h
      have n0 : n = 0 := by rw [← HLN.out, hb]; rfl
      subst n0
      have tz : t = ⟨#[]⟩ := ht2
      subst tz
      have ts : (((⟨#[]⟩ : ByteArray).toList) != ((⟨#[]⟩ : ByteArray).toList)) = false := by decide +kernel
      have z4 : mk = 0 := by rw [HMK.out, hks]; rfl
      subst z4
      clear hb ht2 hks
      go_wp2_with fail
      go_meet
      exact ⟨rfl, rfl⟩
    · obtain ⟨rfl, rfl, hb, ht2, _⟩ := h
      have n0 : n = 0 := by rw [← HLN.out, hb]; rfl
      subst n0
      have tz : t = ⟨#[]⟩ := ht2
      subst tz
      have ts : (((⟨#[]⟩ : ByteArray).toList) != ((⟨#[]⟩ : ByteArray).toList)) = false := by decide +kernel
      clear hb ht2
      go_wp2_with fail
      go_meet
      exact ⟨rfl, rfl⟩
    · obtain ⟨⟨h3, h4, h5, h6, h7⟩, rfl, hb, ht2, hks, hl⟩ := h
      have n0 : n = 0 := by rw [← HLN.out, hb]; rfl
      subst n0
      have tz : t = ⟨#[]⟩ := ht2
      subst tz
      have ts : (((⟨#[]⟩ : ByteArray).toList) != ((⟨#[]⟩ : ByteArray).toList)) = false := by decide +kernel
      have z4 : mk = 0 := by rw [HMK.out, hks]; rfl
      subst z4
      have z5 : m = 0 := by rw [HM.out, hl]; rfl
      subst z5
      clear hb ht2 hks hl
      have c3 : (k != 3) = true := by simpa using h3
      have c4 : (k != 4) = true := by simpa using h4
      have c5 : (k != 5) = true := by simpa using h5
      have c7 : (k != 7) = true := by simpa using h7
      clear h3 h4 h5 h6 h7
      by_cases hk6 : k < 6
      · go_wp2_with fail
        go_meet
        exact ⟨rfl, rfl⟩
      · go_wp2_with fail
        go_meet
        exact ⟨rfl, rfl⟩
  case rest =>
    obtain ⟨hs, hw⟩ := hcut
    subst hs
    rw [hw]
    clear hw k0 k1 k2 k3 k4 k5
    go_wp2_with fail
    go_loopw [3] (fun iv wr => ∃ j : Nat, j ≤ m ∧ iv = .int .i64 j ∧ Hid (Still w wr ∧ Blk wr g 26 #[.int .i64 k, .int .i64 i, .slice A n c, .string t, .slice Ak mk ck, .slice Al m cl])) (fun iv _ => m - (intOf iv).toNat)
    case atStart => exact ⟨0, by omega, rfl, SA.out, BA.out⟩
    case round =>
      obtain ⟨j, hj, rfl, hin⟩ := hrel
      have k5 : wr.cell? ⟨g, 5, none⟩ = some (.slice Al m cl) := hin.out.2.cell 5
      by_cases hlt : j < m
      · obtain ⟨gl, ol, rfl, hgl, hh⟩ := HH.out (by omega)
        obtain ⟨x, hx⟩ : ∃ x, l[j]? = some x := ⟨_, List.getElem?_eq_getElem (by rw [← HM.out]; exact hlt)⟩
        obtain ⟨⟨lx⟩, hvx, hzx, hcx⟩ := HasL.at l ol (HasL.below (Below.mono hin.out.1 HBW.out) gl hgl ol l hh) j x hx
        have d1 : (j : Int) < (m : Int) := by omega
        have d2 : (0 : Int) ≤ (j : Int) := by omega
        have LX := Lib.hid (show lx.length = 6 by simpa using hzx)
        have RNG := Lib.hid (show wr.rangeAt gl (ol + j * 6) lx from fun q v hq => by
          have := hcx q v (by simpa using hq)
          rwa [show ol + 6 * j + q = ol + j * 6 + q by omega] at this)
        have CF := Lib.hid (HIH.out x (List.mem_of_getElem? hx) wr B lx.toArray hvx (Nat.le_trans HBW.out hin.out.1.size) (clL_at l HLL.out x (List.mem_of_getElem? hx)))
        have HLT := Lib.hid hlt
        clear hlt hx hh hgl hvx hzx hcx
        go_wp2_with (guard_target =~ wpList _ _ _ (Oper.mk (some 66) _ _ _ _ _ :: _) _ _; go_must (refine wpList_load_mid rfl 26 (.tmp 65) rfl gl (ol + j * 6) rfl lx (.struct fs) RNG.out HU.out rfl (by rw [sizeValue, LX.out]) ?_))
        refine CF.out.mono ?_
        rintro e w1 ⟨rfl, s1⟩
        have S1 := Lib.hid (Still.trans hin.out.1 s1)
        have B1 := Lib.hid (hin.out.2.still s1)
        clear s1 CF
        go_wp2_with fail
        go_roundw
        case rel => exact ⟨j + 1, by have := HLT.out; omega, by go_num, S1.out, B1.out⟩
        case measure => simp [intOf]; have := HLT.out; omega
      · obtain rfl : j = m := by omega
        clear hlt
        go_wp2_with fail
        go_ret
        exact ⟨rfl, hin.out.1⟩
theorem plainOK : ∀ (x : Tr), PlainOK x
  | .mk k i b t ks l => plain_mk k i b t ks l (fun x hx => plainOK x)
end Go.Proofs.YtmpnehhndhepgaaDoor
