/- Contracts: Encode of a number; that anything is written at all. It proves no statement. -/
import Derived.Test.YtomhpnomcciniaaDoorPackInt
namespace Go.Proofs.YtomhpnomcciniaaDoor
open Go.RowKit
set_option linter.unusedVariables false
set_option linter.unusedSimpArgs false

/-- A number's bytes. -/
def encI (x : Int) : List UInt8 := UInt8.ofNat (nt x) :: numB (nt x) (ux x)
theorem encI_length (x : Int) : (encI x).length = 1 + bh (nt x) := by simp [encI, numB_length]; omega
theorem layN_encI (x : Int) : layN ([], false) (nt x) (ux x) = (encI x, false) := by
  have h := bh_le (nt x)
  have hl := numB_length (nt x) (ux x)
  have e1 : lay1 ([], false) [UInt8.ofNat (nt x)] = ([UInt8.ofNat (nt x)], false) := by
    unfold lay1
    rw [if_neg (by simp)]
    rfl
  unfold layN
  rw [e1]
  unfold lay1
  rw [if_neg (by simp only [List.length_cons, List.length_nil]; omega)]
  rfl

theorem own_rebase {w : World} {B B' : Nat} {e : TypeId} {z n : Nat} {v : Value} {xs : List Value} (h : w.ownsRow B e z v n xs) (hb : B' ≤ B) : w.ownsRow B' e z v n xs := by
  obtain ⟨h1, h2⟩ := h
  refine ⟨h1, h2.imp id ?_⟩
  rintro ⟨g, cap, cur, a, b, r⟩
  exact ⟨g, cap, cur, a, Nat.le_trans hb b, r⟩

set_option maxRecDepth 100000 in
set_option maxHeartbeats 800000 in
theorem encode_int (x : Int) (w : World) (h1 : -9223372036854775808 ≤ x) (h2 : x ≤ 9223372036854775807) :
    Calls Tryd.prog 11 #[.agg (cellsI x)] w fun e w' => ∃ A c, e = .returned (.tuple #[.slice A (encI x).length c, .int .i64 0]) ∧ w'.ownsRow w.heap.size 5 1 (.slice A (encI x).length c) (encI x).length (bytesV (encI x)) ∧ Still w w' := by
  have CAN := Lib.hid (fun w => can_leaf 3 x (.slice none 0 0) (.string ⟨#[]⟩) (.slice none 0 0) (.slice none 0 0) w 1 (by omega) (by omega) (by omega))
  have VAL := Lib.hid (fun (w : World) (lo g : Nat) (R : Option Nat) (h : Wr w lo g R ([], false)) => value_int h x (.slice none 0 0) (.string ⟨#[]⟩) (.slice none 0 0) (.slice none 0 0) h1 h2)
  rw [layN_encI] at VAL
  have hen : (encI x).length ≤ 9 := by rw [encI_length]; have := bh_le (nt x); omega
  obtain ⟨E, hE⟩ : ∃ E, E = encI x := ⟨_, rfl⟩
  rw [← hE] at VAL hen ⊢
  obtain ⟨wA, hA⟩ : ∃ wA, wA = w.alloc (.cells #[.int .i64 3, .int .i64 x, .slice none 0 0, .string ⟨#[]⟩, .slice none 0 0, .slice none 0 0] 26) := ⟨_, rfl⟩
  have sA : Still w wA := by rw [hA]; exact (Still.refl w).alloc (Nat.le_refl _) _
  have bA : Blk wA w.heap.size 26 #[.int .i64 3, .int .i64 x, .slice none 0 0, .string ⟨#[]⟩, .slice none 0 0, .slice none 0 0] := by rw [hA]; exact Blk.new _ _ _
  have HA := Lib.hid hA
  have SA := Lib.hid sA
  have BA := Lib.hid bA
  have ca0 : ∀ i : Nat, wA.cell? ⟨w.heap.size, i, none⟩ = _ := fun i => bA.cell i
  have CC := Lib.hid (fun (W : World) (h : Blk W w.heap.size 26 #[.int .i64 3, .int .i64 x, .slice none 0 0, .string ⟨#[]⟩, .slice none 0 0, .slice none 0 0]) => (⟨h.cell 0, h.cell 1, h.cell 2, h.cell 3, h.cell 4, h.cell 5⟩ : W.cell? ⟨w.heap.size, 0, none⟩ = some (.int .i64 3) ∧ W.cell? ⟨w.heap.size, 1, none⟩ = some (.int .i64 x) ∧ W.cell? ⟨w.heap.size, 2, none⟩ = some (.slice none 0 0) ∧ W.cell? ⟨w.heap.size, 3, none⟩ = some (.string ⟨#[]⟩) ∧ W.cell? ⟨w.heap.size, 4, none⟩ = some (.slice none 0 0) ∧ W.cell? ⟨w.heap.size, 5, none⟩ = some (.slice none 0 0)))
  obtain ⟨c0, c1, c2, c3, c4, c5⟩ := CC.out wA bA
  have HEN := Lib.hid hen
  clear hA sA bA ca0 hE h1 h2 hen
  unfold cellsI
  go_enter Tryd.func11, Tryd.ntmps11
  go_upto_region 1 with fail
  rw [← HA.out]
  clear HA
  go_wp2_with fail
  refine (CAN.out _).mono ?_
  rintro e w1 ⟨rfl, s1⟩
  have S1 := Lib.hid (SA.out.trans s1)
  have B1 := Lib.hid (BA.out.still s1)
  clear c0 c1 c2 c3 c4 c5 s1 CAN
  go_upto_region 4 with fail
  obtain ⟨w2, hw2⟩ : ∃ w2, w2 = w1.alloc (.cells #[.slice none 0 0, .bool false] 54) := ⟨_, rfl⟩
  have s2 : Still w1 w2 := by rw [hw2]; exact (Still.refl w1).alloc (Nat.le_refl _) _
  have wr2 : Wr w2 w1.heap.size w1.heap.size none ([], false) :=
    ⟨Nat.le_refl _, by simp, none, 0, rfl, by rw [hw2]; exact Blk.new _ _ _, World.ownsRow_nil _ _ _ _, by simp⟩
  have b2 := B1.out.still s2
  obtain ⟨c0, c1, c2, c3, c4, c5⟩ := CC.out w2 b2
  have WR2 := Lib.hid wr2
  have S2 := Lib.hid (S1.out.trans s2)
  have Z2 := Lib.hid (show w.heap.size ≤ w1.heap.size from S1.out.size)
  rw [← hw2]
  obtain ⟨g, hg⟩ : ∃ g, g = w1.heap.size := ⟨_, rfl⟩
  rw [← hg] at WR2 Z2 ⊢
  clear hw2 s2 wr2 b2 hg
  go_wp2_with fail
  refine (VAL.out _ _ _ _ WR2.out).mono ?_
  rintro e w3 ⟨rfl, R3, wr3, v3⟩
  have S3 := Lib.hid (show Still w w3 from Below.trans S2.out (Below.mono (v3.low WR2.out) Z2.out))
  obtain ⟨q1, q2, A, c, -, hb3, own3, -⟩ := wr3
  have k0 : w3.cell? ⟨g, 0, none⟩ = some (.slice A E.length c) := hb3.cell 0
  have k1 : w3.cell? ⟨g, 1, none⟩ = some (.bool false) := hb3.cell 1
  have O3 : Hid (w3.ownsRow w.heap.size 5 1 (.slice A E.length c) E.length (bytesV E)) := Lib.hid (own_rebase own3 Z2.out)
  clear c0 c1 c2 c3 c4 c5 q1 q2 hb3 own3 v3
  generalize hn : E.length = n at *
  have HNN := Lib.hid hn
  clear hn
  go_wp2_with fail
  go_ret2
  rw [HNN.out]
  exact ⟨A, c, rfl, O3.out, S3.out⟩

set_option maxRecDepth 100000 in
set_option maxHeartbeats 800000 in
theorem lives_any (w : World) : Calls Tryd.prog 15 #[] w fun e w' => e = .returned (.bool true) ∧ Still w w' := by
  have e5 : encI 5 = [5] := by decide +kernel
  have ENC := Lib.hid (fun w => encode_int 5 w (by omega) (by omega))
  rw [e5] at ENC
  have OF := Lib.hid (of_any 5 w)
  obtain ⟨cs, hcs⟩ : ∃ cs, cs = cellsI 5 := ⟨_, rfl⟩
  rw [← hcs] at ENC OF
  clear e5 hcs
  go_enter Tryd.func15, Tryd.ntmps15
  go_wp2_with fail
  refine OF.out.mono ?_
  rintro e w1 ⟨rfl, s1⟩
  go_wp2_with fail
  refine (ENC.out _).mono ?_
  rintro e w2 ⟨A, c, rfl, own2, s2⟩
  obtain ⟨g, rfl⟩ : ∃ g, A = some ⟨g, 0, none⟩ := by
    rcases own2.2 with ⟨_, h0⟩ | ⟨b4, cap, cur, hv, _⟩
    · cases h0
    · injection hv with hv1
      exact ⟨b4, hv1⟩
  have k0 : w2.cell? ⟨g, 0, none⟩ = some (.int .u8 5) := own2.cellAt 0 (by decide)
  have OW := Lib.hid own2
  have ST := Lib.hid (s1.trans s2)
  clear own2 s1 s2
  go_wp2_with fail
  go_ret
  exact ⟨rfl, ST.out⟩
end Go.Proofs.YtomhpnomcciniaaDoor
